/-
  NARROWER THAN 'FOR EVERY INPUT', by the rows' own cells (each row's printed sentence says how): FnLeftUpTo: calm · FnExactLeftUpTo: calm.
  DERIVED. THE GIVEN ROWS OF THIS SEAT. 8 by the template 'for every input the law returns true; each argument reads behind the call as it read before'; 0 by the template 'total and deterministic' (their statements: YtdhcdgmceiganaaTotals.lean).
  GIVEN WITH THE SEED: the statements are not yours to turn. If you find one false, say at which input.
  Laid BY PROGRAM, IN A SANDBOX (cutbox-rows.mjs): the forced cells as the released guide's own fill.sh prints them over the translation 9c8764e1556faed6… (all of the seat's roots in one cut). By AI agents, Wed Nov 11 2026. No macro, syntax, notation, axiom, sorry.
-/
import Derived.Test.YtdhcdgmceiganaaChecked
import GoSem.Claim
import GoSem.ClaimJoined
import GoSem.ClaimMapViews
import Derived.JoinedTies
import Derived.KernelRfl
namespace Go.Proofs.Ytdhcdgmceiganaa
/- THE CELL 'sum', in the pinned program and in every row, IS THE sha256 OF THE DUMP (.gsa) THAT YtdhcdgmceiganaaProg.lean LOADS. Nothing in Lean hashes anything: it is a label: what it is worth is what the hold of that sum in a sandbox is worth. -/
noncomputable def Try.pinned : Pinned := { name := "ytdhcdgmceiganaa", sum := "9c8764e1556faed6662e2543032603d17acfe3a363328b7f5c00ad8e32dca045", checked := Try.checked }
namespace Rows
def none {H : Type} : Left H := { results := [], args := [] }

/-- 'laws.FnLeftIn': WHATEVER THE INPUT: true; the input reads as it did. -/
def fnLeftInSpec : ChangeSpec := { name := "fnLeftIn", fn := fun _ => fun
  | [d] => { results := [.lit (.bool true)], args := [d] }
  | _ => none }
def fnLeftInRow : OpenClaim := { program := "ytdhcdgmceiganaa", sum := "9c8764e1556faed6662e2543032603d17acfe3a363328b7f5c00ad8e32dca045", func := "loop.example/carrytriangles/laws.FnLeftIn", spec := "fnLeftIn", unfollowed := true, recurses := true, leaving := true, apart := false }
def FnLeftInSaid : Prop := fnLeftInRow.holds Try.pinned (OpenSpec.ofChange fnLeftInSpec)

/-- ITS FALSE NEIGHBOUR: 'it returns false'. Refute it at one input. -/
def fnLeftInWrong : ChangeSpec := { name := "fnLeftIn", fn := fun _ => fun
  | [d] => { results := [.lit (.bool false)], args := [d] }
  | _ => none }
def FnLeftInWrongFalsely : Prop := fnLeftInRow.holds Try.pinned (OpenSpec.ofChange fnLeftInWrong)

/-- 'laws.FnLeftUpTo': WHATEVER THE INPUT: true; the input reads as it did. -/
def fnLeftUpToSpec : ChangeSpec := { name := "fnLeftUpTo", fn := fun _ => fun
  | [d] => { results := [.lit (.bool true)], args := [d] }
  | _ => none }
def fnLeftUpToRow : OpenClaim := { program := "ytdhcdgmceiganaa", sum := "9c8764e1556faed6662e2543032603d17acfe3a363328b7f5c00ad8e32dca045", func := "loop.example/carrytriangles/laws.FnLeftUpTo", spec := "fnLeftUpTo", inPlace := ["(*sync.WaitGroup).Add", "internal/race.ReleaseMerge", "internal/race.Disable", "internal/race.Enable", "internal/synctest.IsInBubble", "internal/synctest.Associate[sync.WaitGroup]", "sync.fatal", "sync/atomic.OrUint64", "sync/atomic.AddUint64", "internal/race.Read", "sync/atomic.LoadUint64", "sync/atomic.StoreUint64", "internal/synctest.Disassociate[sync.WaitGroup]", "sync.runtime_Semrelease", "(*sync.WaitGroup).Done", "(*internal/sync.Mutex).Lock", "sync/atomic.CompareAndSwapInt32", "internal/race.Acquire", "(*internal/sync.Mutex).lockSlow", "internal/sync.runtime_canSpin", "internal/sync.runtime_doSpin", "internal/sync.throw", "internal/sync.runtime_nanotime", "internal/sync.runtime_SemacquireMutex", "sync/atomic.AddInt32", "(*internal/sync.Mutex).Unlock", "(*internal/sync.Mutex).unlockSlow", "internal/sync.fatal", "internal/sync.runtime_Semrelease", "(*sync.WaitGroup).Wait", "internal/synctest.IsAssociated[sync.WaitGroup]", "sync/atomic.CompareAndSwapUint64", "internal/race.Write", "sync.runtime_SemacquireWaitGroup"], unfollowed := true, recurses := true, leaving := true, apart := false, calm := true, outside := [.timePasses] }
def FnLeftUpToSaid : Prop := fnLeftUpToRow.holds Try.pinned (OpenSpec.ofChange fnLeftUpToSpec)

/-- ITS FALSE NEIGHBOUR: 'it returns false'. Refute it at one input. -/
def fnLeftUpToWrong : ChangeSpec := { name := "fnLeftUpTo", fn := fun _ => fun
  | [d] => { results := [.lit (.bool false)], args := [d] }
  | _ => none }
def FnLeftUpToWrongFalsely : Prop := fnLeftUpToRow.holds Try.pinned (OpenSpec.ofChange fnLeftUpToWrong)

/-- 'laws.FnWholeOk': WHATEVER THE INPUT: true; the input reads as it did. -/
def fnWholeOkSpec : ChangeSpec := { name := "fnWholeOk", fn := fun _ => fun
  | [d] => { results := [.lit (.bool true)], args := [d] }
  | _ => none }
def fnWholeOkRow : OpenClaim := { program := "ytdhcdgmceiganaa", sum := "9c8764e1556faed6662e2543032603d17acfe3a363328b7f5c00ad8e32dca045", func := "loop.example/carrytriangles/laws.FnWholeOk", spec := "fnWholeOk", unfollowed := true, recurses := true, leaving := true, apart := false }
def FnWholeOkSaid : Prop := fnWholeOkRow.holds Try.pinned (OpenSpec.ofChange fnWholeOkSpec)

/-- ITS FALSE NEIGHBOUR: 'it returns false'. Refute it at one input. -/
def fnWholeOkWrong : ChangeSpec := { name := "fnWholeOk", fn := fun _ => fun
  | [d] => { results := [.lit (.bool false)], args := [d] }
  | _ => none }
def FnWholeOkWrongFalsely : Prop := fnWholeOkRow.holds Try.pinned (OpenSpec.ofChange fnWholeOkWrong)

/-- 'laws.FnWholeUpTo': WHATEVER THE INPUT: true; the input reads as it did. -/
def fnWholeUpToSpec : ChangeSpec := { name := "fnWholeUpTo", fn := fun _ => fun
  | [d] => { results := [.lit (.bool true)], args := [d] }
  | _ => none }
def fnWholeUpToRow : OpenClaim := { program := "ytdhcdgmceiganaa", sum := "9c8764e1556faed6662e2543032603d17acfe3a363328b7f5c00ad8e32dca045", func := "loop.example/carrytriangles/laws.FnWholeUpTo", spec := "fnWholeUpTo", unfollowed := true, recurses := true, leaving := true, apart := false }
def FnWholeUpToSaid : Prop := fnWholeUpToRow.holds Try.pinned (OpenSpec.ofChange fnWholeUpToSpec)

/-- ITS FALSE NEIGHBOUR: 'it returns false'. Refute it at one input. -/
def fnWholeUpToWrong : ChangeSpec := { name := "fnWholeUpTo", fn := fun _ => fun
  | [d] => { results := [.lit (.bool false)], args := [d] }
  | _ => none }
def FnWholeUpToWrongFalsely : Prop := fnWholeUpToRow.holds Try.pinned (OpenSpec.ofChange fnWholeUpToWrong)

/-- 'laws.FnExactLeftIn': WHATEVER THE INPUT: true; the input reads as it did. -/
def fnExactLeftInSpec : ChangeSpec := { name := "fnExactLeftIn", fn := fun _ => fun
  | [d1, d2] => { results := [.lit (.bool true)], args := [d1, d2] }
  | _ => none }
def fnExactLeftInRow : OpenClaim := { program := "ytdhcdgmceiganaa", sum := "9c8764e1556faed6662e2543032603d17acfe3a363328b7f5c00ad8e32dca045", func := "loop.example/carrytriangles/laws.FnExactLeftIn", spec := "fnExactLeftIn", unfollowed := true, recurses := true, leaving := true, apart := false }
def FnExactLeftInSaid : Prop := fnExactLeftInRow.holds Try.pinned (OpenSpec.ofChange fnExactLeftInSpec)

/-- ITS FALSE NEIGHBOUR: 'it returns false'. Refute it at one input. -/
def fnExactLeftInWrong : ChangeSpec := { name := "fnExactLeftIn", fn := fun _ => fun
  | [d1, d2] => { results := [.lit (.bool false)], args := [d1, d2] }
  | _ => none }
def FnExactLeftInWrongFalsely : Prop := fnExactLeftInRow.holds Try.pinned (OpenSpec.ofChange fnExactLeftInWrong)

/-- 'laws.FnExactLeftUpTo': WHATEVER THE INPUT: true; the input reads as it did. -/
def fnExactLeftUpToSpec : ChangeSpec := { name := "fnExactLeftUpTo", fn := fun _ => fun
  | [d1, d2] => { results := [.lit (.bool true)], args := [d1, d2] }
  | _ => none }
def fnExactLeftUpToRow : OpenClaim := { program := "ytdhcdgmceiganaa", sum := "9c8764e1556faed6662e2543032603d17acfe3a363328b7f5c00ad8e32dca045", func := "loop.example/carrytriangles/laws.FnExactLeftUpTo", spec := "fnExactLeftUpTo", inPlace := ["(*sync.WaitGroup).Add", "internal/race.ReleaseMerge", "internal/race.Disable", "internal/race.Enable", "internal/synctest.IsInBubble", "internal/synctest.Associate[sync.WaitGroup]", "sync.fatal", "sync/atomic.OrUint64", "sync/atomic.AddUint64", "internal/race.Read", "sync/atomic.LoadUint64", "sync/atomic.StoreUint64", "internal/synctest.Disassociate[sync.WaitGroup]", "sync.runtime_Semrelease", "(*sync.WaitGroup).Done", "(*internal/sync.Mutex).Lock", "sync/atomic.CompareAndSwapInt32", "internal/race.Acquire", "(*internal/sync.Mutex).lockSlow", "internal/sync.runtime_canSpin", "internal/sync.runtime_doSpin", "internal/sync.throw", "internal/sync.runtime_nanotime", "internal/sync.runtime_SemacquireMutex", "sync/atomic.AddInt32", "(*internal/sync.Mutex).Unlock", "(*internal/sync.Mutex).unlockSlow", "internal/sync.fatal", "internal/sync.runtime_Semrelease", "(*sync.WaitGroup).Wait", "internal/synctest.IsAssociated[sync.WaitGroup]", "sync/atomic.CompareAndSwapUint64", "internal/race.Write", "sync.runtime_SemacquireWaitGroup"], unfollowed := true, recurses := true, leaving := true, apart := false, calm := true, outside := [.timePasses] }
def FnExactLeftUpToSaid : Prop := fnExactLeftUpToRow.holds Try.pinned (OpenSpec.ofChange fnExactLeftUpToSpec)

/-- ITS FALSE NEIGHBOUR: 'it returns false'. Refute it at one input. -/
def fnExactLeftUpToWrong : ChangeSpec := { name := "fnExactLeftUpTo", fn := fun _ => fun
  | [d1, d2] => { results := [.lit (.bool false)], args := [d1, d2] }
  | _ => none }
def FnExactLeftUpToWrongFalsely : Prop := fnExactLeftUpToRow.holds Try.pinned (OpenSpec.ofChange fnExactLeftUpToWrong)

/-- 'laws.FnExactWholeOk': WHATEVER THE INPUT: true; the input reads as it did. -/
def fnExactWholeOkSpec : ChangeSpec := { name := "fnExactWholeOk", fn := fun _ => fun
  | [d1, d2] => { results := [.lit (.bool true)], args := [d1, d2] }
  | _ => none }
def fnExactWholeOkRow : OpenClaim := { program := "ytdhcdgmceiganaa", sum := "9c8764e1556faed6662e2543032603d17acfe3a363328b7f5c00ad8e32dca045", func := "loop.example/carrytriangles/laws.FnExactWholeOk", spec := "fnExactWholeOk", apart := false }
def FnExactWholeOkSaid : Prop := fnExactWholeOkRow.holds Try.pinned (OpenSpec.ofChange fnExactWholeOkSpec)

/-- ITS FALSE NEIGHBOUR: 'it returns false'. Refute it at one input. -/
def fnExactWholeOkWrong : ChangeSpec := { name := "fnExactWholeOk", fn := fun _ => fun
  | [d1, d2] => { results := [.lit (.bool false)], args := [d1, d2] }
  | _ => none }
def FnExactWholeOkWrongFalsely : Prop := fnExactWholeOkRow.holds Try.pinned (OpenSpec.ofChange fnExactWholeOkWrong)

/-- 'laws.FnExactWholeUpTo': WHATEVER THE INPUT: true; the input reads as it did. -/
def fnExactWholeUpToSpec : ChangeSpec := { name := "fnExactWholeUpTo", fn := fun _ => fun
  | [d1, d2] => { results := [.lit (.bool true)], args := [d1, d2] }
  | _ => none }
def fnExactWholeUpToRow : OpenClaim := { program := "ytdhcdgmceiganaa", sum := "9c8764e1556faed6662e2543032603d17acfe3a363328b7f5c00ad8e32dca045", func := "loop.example/carrytriangles/laws.FnExactWholeUpTo", spec := "fnExactWholeUpTo", apart := false }
def FnExactWholeUpToSaid : Prop := fnExactWholeUpToRow.holds Try.pinned (OpenSpec.ofChange fnExactWholeUpToSpec)

/-- ITS FALSE NEIGHBOUR: 'it returns false'. Refute it at one input. -/
def fnExactWholeUpToWrong : ChangeSpec := { name := "fnExactWholeUpTo", fn := fun _ => fun
  | [d1, d2] => { results := [.lit (.bool false)], args := [d1, d2] }
  | _ => none }
def FnExactWholeUpToWrongFalsely : Prop := fnExactWholeUpToRow.holds Try.pinned (OpenSpec.ofChange fnExactWholeUpToWrong)

/- THE SECOND FORM. 'bulk': how many values and letters a reading holds, each counted each time it is reached (what is shared counts as often as it is met; a slice's spare places count too). A statement '..UptoSaid' is the law's where the arguments, and the package variables that the reading takes, are together of bulk at most 1048576: NARROWER than '..Said'. Prove '..Said' where nothing that the law and all that it calls make is longer than what came in: it says more and counts as full. Else prove '..UptoSaid'. A law counts once. -/
mutual
def uptoBulk {H : Type} : DataW H → Nat
  | .lit (.string bytes) => bytes.length + 1
  | .lit _ => 1
  | .nil => 1
  | .ptr d => uptoBulk d + 1
  | .slice elems spare => uptoBulkAll elems + uptoBulkAll spare + 1
  | .agg parts => uptoBulkAll parts + 1
  | .iface _ d => uptoBulk d + 1
  | .map entries => uptoBulkEntries entries + 1
  | .held _ => 1
def uptoBulkAll {H : Type} : List (DataW H) → Nat
  | [] => 0
  | d :: r => uptoBulk d + uptoBulkAll r
def uptoBulkEntries {H : Type} : List (Lit × DataW H) → Nat
  | [] => 0
  | x :: r => uptoBulkEntry x + uptoBulkEntries r
def uptoBulkEntry {H : Type} : Lit × DataW H → Nat
  | (.string bytes, d) => bytes.length + uptoBulk d + 1
  | (_, d) => uptoBulk d + 1
 end
def uptoSmall : (H : Type) → List (DataW H) → Bool := fun _ ds => decide (uptoBulkAll ds ≤ 1048576)
def OpenSpec.upto (s : _root_.Go.ChangeSpec) : _root_.Go.OpenSpec := { _root_.Go.OpenSpec.ofChange s with cond := some uptoSmall }

/-- 'laws.FnLeftIn', WHERE WHAT IT READS IS OF BULK AT MOST 1048576: true; the input reads as it did. -/
def fnLeftInUptoRow : OpenClaim := { program := "ytdhcdgmceiganaa", sum := "9c8764e1556faed6662e2543032603d17acfe3a363328b7f5c00ad8e32dca045", func := "loop.example/carrytriangles/laws.FnLeftIn", spec := "fnLeftIn", unfollowed := true, recurses := true, leaving := true, apart := false, narrowed := true }
def FnLeftInUptoSaid : Prop := fnLeftInUptoRow.holds Try.pinned (OpenSpec.upto fnLeftInSpec)

/-- 'laws.FnLeftUpTo', WHERE WHAT IT READS IS OF BULK AT MOST 1048576: true; the input reads as it did. -/
def fnLeftUpToUptoRow : OpenClaim := { program := "ytdhcdgmceiganaa", sum := "9c8764e1556faed6662e2543032603d17acfe3a363328b7f5c00ad8e32dca045", func := "loop.example/carrytriangles/laws.FnLeftUpTo", spec := "fnLeftUpTo", inPlace := ["(*sync.WaitGroup).Add", "internal/race.ReleaseMerge", "internal/race.Disable", "internal/race.Enable", "internal/synctest.IsInBubble", "internal/synctest.Associate[sync.WaitGroup]", "sync.fatal", "sync/atomic.OrUint64", "sync/atomic.AddUint64", "internal/race.Read", "sync/atomic.LoadUint64", "sync/atomic.StoreUint64", "internal/synctest.Disassociate[sync.WaitGroup]", "sync.runtime_Semrelease", "(*sync.WaitGroup).Done", "(*internal/sync.Mutex).Lock", "sync/atomic.CompareAndSwapInt32", "internal/race.Acquire", "(*internal/sync.Mutex).lockSlow", "internal/sync.runtime_canSpin", "internal/sync.runtime_doSpin", "internal/sync.throw", "internal/sync.runtime_nanotime", "internal/sync.runtime_SemacquireMutex", "sync/atomic.AddInt32", "(*internal/sync.Mutex).Unlock", "(*internal/sync.Mutex).unlockSlow", "internal/sync.fatal", "internal/sync.runtime_Semrelease", "(*sync.WaitGroup).Wait", "internal/synctest.IsAssociated[sync.WaitGroup]", "sync/atomic.CompareAndSwapUint64", "internal/race.Write", "sync.runtime_SemacquireWaitGroup"], unfollowed := true, recurses := true, leaving := true, apart := false, calm := true, outside := [.timePasses], narrowed := true }
def FnLeftUpToUptoSaid : Prop := fnLeftUpToUptoRow.holds Try.pinned (OpenSpec.upto fnLeftUpToSpec)

/-- 'laws.FnWholeOk', WHERE WHAT IT READS IS OF BULK AT MOST 1048576: true; the input reads as it did. -/
def fnWholeOkUptoRow : OpenClaim := { program := "ytdhcdgmceiganaa", sum := "9c8764e1556faed6662e2543032603d17acfe3a363328b7f5c00ad8e32dca045", func := "loop.example/carrytriangles/laws.FnWholeOk", spec := "fnWholeOk", unfollowed := true, recurses := true, leaving := true, apart := false, narrowed := true }
def FnWholeOkUptoSaid : Prop := fnWholeOkUptoRow.holds Try.pinned (OpenSpec.upto fnWholeOkSpec)

/-- 'laws.FnWholeUpTo', WHERE WHAT IT READS IS OF BULK AT MOST 1048576: true; the input reads as it did. -/
def fnWholeUpToUptoRow : OpenClaim := { program := "ytdhcdgmceiganaa", sum := "9c8764e1556faed6662e2543032603d17acfe3a363328b7f5c00ad8e32dca045", func := "loop.example/carrytriangles/laws.FnWholeUpTo", spec := "fnWholeUpTo", unfollowed := true, recurses := true, leaving := true, apart := false, narrowed := true }
def FnWholeUpToUptoSaid : Prop := fnWholeUpToUptoRow.holds Try.pinned (OpenSpec.upto fnWholeUpToSpec)

/-- 'laws.FnExactLeftIn', WHERE WHAT IT READS IS OF BULK AT MOST 1048576: true; the input reads as it did. -/
def fnExactLeftInUptoRow : OpenClaim := { program := "ytdhcdgmceiganaa", sum := "9c8764e1556faed6662e2543032603d17acfe3a363328b7f5c00ad8e32dca045", func := "loop.example/carrytriangles/laws.FnExactLeftIn", spec := "fnExactLeftIn", unfollowed := true, recurses := true, leaving := true, apart := false, narrowed := true }
def FnExactLeftInUptoSaid : Prop := fnExactLeftInUptoRow.holds Try.pinned (OpenSpec.upto fnExactLeftInSpec)

/-- 'laws.FnExactLeftUpTo', WHERE WHAT IT READS IS OF BULK AT MOST 1048576: true; the input reads as it did. -/
def fnExactLeftUpToUptoRow : OpenClaim := { program := "ytdhcdgmceiganaa", sum := "9c8764e1556faed6662e2543032603d17acfe3a363328b7f5c00ad8e32dca045", func := "loop.example/carrytriangles/laws.FnExactLeftUpTo", spec := "fnExactLeftUpTo", inPlace := ["(*sync.WaitGroup).Add", "internal/race.ReleaseMerge", "internal/race.Disable", "internal/race.Enable", "internal/synctest.IsInBubble", "internal/synctest.Associate[sync.WaitGroup]", "sync.fatal", "sync/atomic.OrUint64", "sync/atomic.AddUint64", "internal/race.Read", "sync/atomic.LoadUint64", "sync/atomic.StoreUint64", "internal/synctest.Disassociate[sync.WaitGroup]", "sync.runtime_Semrelease", "(*sync.WaitGroup).Done", "(*internal/sync.Mutex).Lock", "sync/atomic.CompareAndSwapInt32", "internal/race.Acquire", "(*internal/sync.Mutex).lockSlow", "internal/sync.runtime_canSpin", "internal/sync.runtime_doSpin", "internal/sync.throw", "internal/sync.runtime_nanotime", "internal/sync.runtime_SemacquireMutex", "sync/atomic.AddInt32", "(*internal/sync.Mutex).Unlock", "(*internal/sync.Mutex).unlockSlow", "internal/sync.fatal", "internal/sync.runtime_Semrelease", "(*sync.WaitGroup).Wait", "internal/synctest.IsAssociated[sync.WaitGroup]", "sync/atomic.CompareAndSwapUint64", "internal/race.Write", "sync.runtime_SemacquireWaitGroup"], unfollowed := true, recurses := true, leaving := true, apart := false, calm := true, outside := [.timePasses], narrowed := true }
def FnExactLeftUpToUptoSaid : Prop := fnExactLeftUpToUptoRow.holds Try.pinned (OpenSpec.upto fnExactLeftUpToSpec)

/-- 'laws.FnExactWholeOk', WHERE WHAT IT READS IS OF BULK AT MOST 1048576: true; the input reads as it did. -/
def fnExactWholeOkUptoRow : OpenClaim := { program := "ytdhcdgmceiganaa", sum := "9c8764e1556faed6662e2543032603d17acfe3a363328b7f5c00ad8e32dca045", func := "loop.example/carrytriangles/laws.FnExactWholeOk", spec := "fnExactWholeOk", apart := false, narrowed := true }
def FnExactWholeOkUptoSaid : Prop := fnExactWholeOkUptoRow.holds Try.pinned (OpenSpec.upto fnExactWholeOkSpec)

/-- 'laws.FnExactWholeUpTo', WHERE WHAT IT READS IS OF BULK AT MOST 1048576: true; the input reads as it did. -/
def fnExactWholeUpToUptoRow : OpenClaim := { program := "ytdhcdgmceiganaa", sum := "9c8764e1556faed6662e2543032603d17acfe3a363328b7f5c00ad8e32dca045", func := "loop.example/carrytriangles/laws.FnExactWholeUpTo", spec := "fnExactWholeUpTo", apart := false, narrowed := true }
def FnExactWholeUpToUptoSaid : Prop := fnExactWholeUpToUptoRow.holds Try.pinned (OpenSpec.upto fnExactWholeUpToSpec)

end Rows
end Go.Proofs.Ytdhcdgmceiganaa
