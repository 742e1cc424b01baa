/-
  No cell of these rows narrows 'for every input' (looked for: loops, veiled, ifaces, maps, wideKeys, modest, calm, conditions, laid).
  DERIVED. THE GIVEN ROWS OF THIS SEAT. 6 by the template 'for every input the law returns true; each argument reads behind the call as it read before'; 0 by the template 'total and deterministic' (their statements: YtfhpmpladbelaaaTotals.lean).
  GIVEN WITH THE SEED: the statements are not yours to turn. If you find one false, say at which input.
  Laid BY PROGRAM, IN A SANDBOX (cutbox-rows.mjs): the forced cells as the released guide's own fill.sh prints them over the translation 7b20035acc3f9d0c… (all of the seat's roots in one cut). By AI agents, Wed Nov 11 2026. No macro, syntax, notation, axiom, sorry.
-/
import Derived.Test.YtfhpmpladbelaaaChecked
import GoSem.Claim
import GoSem.ClaimJoined
import GoSem.ClaimMapViews
import Derived.JoinedTies
import Derived.KernelRfl
namespace Go.Proofs.Ytfhpmpladbelaaa
/- THE CELL 'sum', in the pinned program and in every row, IS THE sha256 OF THE DUMP (.gsa) THAT YtfhpmpladbelaaaProg.lean LOADS. Nothing in Lean hashes anything: it is a label: what it is worth is what the hold of that sum in a sandbox is worth. -/
noncomputable def Try.pinned : Pinned := { name := "ytfhpmpladbelaaa", sum := "7b20035acc3f9d0c3320ea7bdc2143b454a3e110d15213e155db27f5b0f178f2", checked := Try.checked }
namespace Rows
def none {H : Type} : Left H := { results := [], args := [] }

/-- 'laws.FnLeftOf': WHATEVER THE INPUT: true; the input reads as it did. -/
def fnLeftOfSpec : ChangeSpec := { name := "fnLeftOf", fn := fun _ => fun
  | [d] => { results := [.lit (.bool true)], args := [d] }
  | _ => none }
def fnLeftOfRow : OpenClaim := { program := "ytfhpmpladbelaaa", sum := "7b20035acc3f9d0c3320ea7bdc2143b454a3e110d15213e155db27f5b0f178f2", func := "loop.example/carrytriangles/laws.FnLeftOf", spec := "fnLeftOf", inPlace := ["sync/atomic.LoadUint32", "(*internal/sync.Mutex).Lock", "internal/race.Disable", "sync/atomic.CompareAndSwapInt32", "internal/race.Enable", "internal/race.Acquire", "(*internal/sync.Mutex).lockSlow", "internal/sync.runtime_canSpin", "internal/sync.runtime_doSpin", "internal/sync.throw", "internal/sync.runtime_nanotime", "internal/sync.runtime_SemacquireMutex", "sync/atomic.AddInt32", "(*internal/sync.Mutex).Unlock", "internal/race.ReleaseMerge", "(*internal/sync.Mutex).unlockSlow", "internal/sync.fatal", "internal/sync.runtime_Semrelease", "sync/atomic.StoreUint32"], unfollowed := true, recurses := true, apart := false }
def FnLeftOfSaid : Prop := fnLeftOfRow.holds Try.pinned (OpenSpec.ofChange fnLeftOfSpec)

/-- ITS FALSE NEIGHBOUR: 'it returns false'. Refute it at one input. -/
def fnLeftOfWrong : ChangeSpec := { name := "fnLeftOf", fn := fun _ => fun
  | [d] => { results := [.lit (.bool false)], args := [d] }
  | _ => none }
def FnLeftOfWrongFalsely : Prop := fnLeftOfRow.holds Try.pinned (OpenSpec.ofChange fnLeftOfWrong)

/-- 'laws.FnRowLeft': WHATEVER THE INPUT: true; the input reads as it did. -/
def fnRowLeftSpec : ChangeSpec := { name := "fnRowLeft", fn := fun _ => fun
  | [d] => { results := [.lit (.bool true)], args := [d] }
  | _ => none }
def fnRowLeftRow : OpenClaim := { program := "ytfhpmpladbelaaa", sum := "7b20035acc3f9d0c3320ea7bdc2143b454a3e110d15213e155db27f5b0f178f2", func := "loop.example/carrytriangles/laws.FnRowLeft", spec := "fnRowLeft", unfollowed := true, recurses := true, apart := false }
def FnRowLeftSaid : Prop := fnRowLeftRow.holds Try.pinned (OpenSpec.ofChange fnRowLeftSpec)

/-- ITS FALSE NEIGHBOUR: 'it returns false'. Refute it at one input. -/
def fnRowLeftWrong : ChangeSpec := { name := "fnRowLeft", fn := fun _ => fun
  | [d] => { results := [.lit (.bool false)], args := [d] }
  | _ => none }
def FnRowLeftWrongFalsely : Prop := fnRowLeftRow.holds Try.pinned (OpenSpec.ofChange fnRowLeftWrong)

/-- 'laws.FnTimesLeft': WHATEVER THE INPUT: true; the input reads as it did. -/
def fnTimesLeftSpec : ChangeSpec := { name := "fnTimesLeft", fn := fun _ => fun
  | [d] => { results := [.lit (.bool true)], args := [d] }
  | _ => none }
def fnTimesLeftRow : OpenClaim := { program := "ytfhpmpladbelaaa", sum := "7b20035acc3f9d0c3320ea7bdc2143b454a3e110d15213e155db27f5b0f178f2", func := "loop.example/carrytriangles/laws.FnTimesLeft", spec := "fnTimesLeft", unfollowed := true, recurses := true, apart := false }
def FnTimesLeftSaid : Prop := fnTimesLeftRow.holds Try.pinned (OpenSpec.ofChange fnTimesLeftSpec)

/-- ITS FALSE NEIGHBOUR: 'it returns false'. Refute it at one input. -/
def fnTimesLeftWrong : ChangeSpec := { name := "fnTimesLeft", fn := fun _ => fun
  | [d] => { results := [.lit (.bool false)], args := [d] }
  | _ => none }
def FnTimesLeftWrongFalsely : Prop := fnTimesLeftRow.holds Try.pinned (OpenSpec.ofChange fnTimesLeftWrong)

/-- 'laws.FnExactLeftOf': WHATEVER THE INPUT: true; the input reads as it did. -/
def fnExactLeftOfSpec : ChangeSpec := { name := "fnExactLeftOf", fn := fun _ => fun
  | [d1, d2, d3] => { results := [.lit (.bool true)], args := [d1, d2, d3] }
  | _ => none }
def fnExactLeftOfRow : OpenClaim := { program := "ytfhpmpladbelaaa", sum := "7b20035acc3f9d0c3320ea7bdc2143b454a3e110d15213e155db27f5b0f178f2", func := "loop.example/carrytriangles/laws.FnExactLeftOf", spec := "fnExactLeftOf", inPlace := ["sync/atomic.LoadUint32", "(*internal/sync.Mutex).Lock", "internal/race.Disable", "sync/atomic.CompareAndSwapInt32", "internal/race.Enable", "internal/race.Acquire", "(*internal/sync.Mutex).lockSlow", "internal/sync.runtime_canSpin", "internal/sync.runtime_doSpin", "internal/sync.throw", "internal/sync.runtime_nanotime", "internal/sync.runtime_SemacquireMutex", "sync/atomic.AddInt32", "(*internal/sync.Mutex).Unlock", "internal/race.ReleaseMerge", "(*internal/sync.Mutex).unlockSlow", "internal/sync.fatal", "internal/sync.runtime_Semrelease", "sync/atomic.StoreUint32"], unfollowed := true, recurses := true, apart := false }
def FnExactLeftOfSaid : Prop := fnExactLeftOfRow.holds Try.pinned (OpenSpec.ofChange fnExactLeftOfSpec)

/-- ITS FALSE NEIGHBOUR: 'it returns false'. Refute it at one input. -/
def fnExactLeftOfWrong : ChangeSpec := { name := "fnExactLeftOf", fn := fun _ => fun
  | [d1, d2, d3] => { results := [.lit (.bool false)], args := [d1, d2, d3] }
  | _ => none }
def FnExactLeftOfWrongFalsely : Prop := fnExactLeftOfRow.holds Try.pinned (OpenSpec.ofChange fnExactLeftOfWrong)

/-- 'laws.FnExactRowLeft': WHATEVER THE INPUT: true; the input reads as it did. -/
def fnExactRowLeftSpec : ChangeSpec := { name := "fnExactRowLeft", fn := fun _ => fun
  | [d1, d2] => { results := [.lit (.bool true)], args := [d1, d2] }
  | _ => none }
def fnExactRowLeftRow : OpenClaim := { program := "ytfhpmpladbelaaa", sum := "7b20035acc3f9d0c3320ea7bdc2143b454a3e110d15213e155db27f5b0f178f2", func := "loop.example/carrytriangles/laws.FnExactRowLeft", spec := "fnExactRowLeft", apart := false }
def FnExactRowLeftSaid : Prop := fnExactRowLeftRow.holds Try.pinned (OpenSpec.ofChange fnExactRowLeftSpec)

/-- ITS FALSE NEIGHBOUR: 'it returns false'. Refute it at one input. -/
def fnExactRowLeftWrong : ChangeSpec := { name := "fnExactRowLeft", fn := fun _ => fun
  | [d1, d2] => { results := [.lit (.bool false)], args := [d1, d2] }
  | _ => none }
def FnExactRowLeftWrongFalsely : Prop := fnExactRowLeftRow.holds Try.pinned (OpenSpec.ofChange fnExactRowLeftWrong)

/-- 'laws.FnExactTimesLeft': WHATEVER THE INPUT: true; the input reads as it did. -/
def fnExactTimesLeftSpec : ChangeSpec := { name := "fnExactTimesLeft", fn := fun _ => fun
  | [d1, d2, d3] => { results := [.lit (.bool true)], args := [d1, d2, d3] }
  | _ => none }
def fnExactTimesLeftRow : OpenClaim := { program := "ytfhpmpladbelaaa", sum := "7b20035acc3f9d0c3320ea7bdc2143b454a3e110d15213e155db27f5b0f178f2", func := "loop.example/carrytriangles/laws.FnExactTimesLeft", spec := "fnExactTimesLeft", apart := false }
def FnExactTimesLeftSaid : Prop := fnExactTimesLeftRow.holds Try.pinned (OpenSpec.ofChange fnExactTimesLeftSpec)

/-- ITS FALSE NEIGHBOUR: 'it returns false'. Refute it at one input. -/
def fnExactTimesLeftWrong : ChangeSpec := { name := "fnExactTimesLeft", fn := fun _ => fun
  | [d1, d2, d3] => { results := [.lit (.bool false)], args := [d1, d2, d3] }
  | _ => none }
def FnExactTimesLeftWrongFalsely : Prop := fnExactTimesLeftRow.holds Try.pinned (OpenSpec.ofChange fnExactTimesLeftWrong)

/- THE SECOND FORM. 'bulk': how many values and letters a reading holds, each counted each time it is reached (what is shared counts as often as it is met; a slice's spare places count too). A statement '..UptoSaid' is the law's where the arguments, and the package variables that the reading takes, are together of bulk at most 1048576: NARROWER than '..Said'. Prove '..Said' where nothing that the law and all that it calls make is longer than what came in: it says more and counts as full. Else prove '..UptoSaid'. A law counts once. -/
mutual
def uptoBulk {H : Type} : DataW H → Nat
  | .lit (.string bytes) => bytes.length + 1
  | .lit _ => 1
  | .nil => 1
  | .ptr d => uptoBulk d + 1
  | .slice elems spare => uptoBulkAll elems + uptoBulkAll spare + 1
  | .agg parts => uptoBulkAll parts + 1
  | .iface _ d => uptoBulk d + 1
  | .map entries => uptoBulkEntries entries + 1
  | .held _ => 1
def uptoBulkAll {H : Type} : List (DataW H) → Nat
  | [] => 0
  | d :: r => uptoBulk d + uptoBulkAll r
def uptoBulkEntries {H : Type} : List (Lit × DataW H) → Nat
  | [] => 0
  | x :: r => uptoBulkEntry x + uptoBulkEntries r
def uptoBulkEntry {H : Type} : Lit × DataW H → Nat
  | (.string bytes, d) => bytes.length + uptoBulk d + 1
  | (_, d) => uptoBulk d + 1
 end
def uptoSmall : (H : Type) → List (DataW H) → Bool := fun _ ds => decide (uptoBulkAll ds ≤ 1048576)
def OpenSpec.upto (s : _root_.Go.ChangeSpec) : _root_.Go.OpenSpec := { _root_.Go.OpenSpec.ofChange s with cond := some uptoSmall }

/-- 'laws.FnLeftOf', WHERE WHAT IT READS IS OF BULK AT MOST 1048576: true; the input reads as it did. -/
def fnLeftOfUptoRow : OpenClaim := { program := "ytfhpmpladbelaaa", sum := "7b20035acc3f9d0c3320ea7bdc2143b454a3e110d15213e155db27f5b0f178f2", func := "loop.example/carrytriangles/laws.FnLeftOf", spec := "fnLeftOf", inPlace := ["sync/atomic.LoadUint32", "(*internal/sync.Mutex).Lock", "internal/race.Disable", "sync/atomic.CompareAndSwapInt32", "internal/race.Enable", "internal/race.Acquire", "(*internal/sync.Mutex).lockSlow", "internal/sync.runtime_canSpin", "internal/sync.runtime_doSpin", "internal/sync.throw", "internal/sync.runtime_nanotime", "internal/sync.runtime_SemacquireMutex", "sync/atomic.AddInt32", "(*internal/sync.Mutex).Unlock", "internal/race.ReleaseMerge", "(*internal/sync.Mutex).unlockSlow", "internal/sync.fatal", "internal/sync.runtime_Semrelease", "sync/atomic.StoreUint32"], unfollowed := true, recurses := true, apart := false, narrowed := true }
def FnLeftOfUptoSaid : Prop := fnLeftOfUptoRow.holds Try.pinned (OpenSpec.upto fnLeftOfSpec)

/-- 'laws.FnRowLeft', WHERE WHAT IT READS IS OF BULK AT MOST 1048576: true; the input reads as it did. -/
def fnRowLeftUptoRow : OpenClaim := { program := "ytfhpmpladbelaaa", sum := "7b20035acc3f9d0c3320ea7bdc2143b454a3e110d15213e155db27f5b0f178f2", func := "loop.example/carrytriangles/laws.FnRowLeft", spec := "fnRowLeft", unfollowed := true, recurses := true, apart := false, narrowed := true }
def FnRowLeftUptoSaid : Prop := fnRowLeftUptoRow.holds Try.pinned (OpenSpec.upto fnRowLeftSpec)

/-- 'laws.FnTimesLeft', WHERE WHAT IT READS IS OF BULK AT MOST 1048576: true; the input reads as it did. -/
def fnTimesLeftUptoRow : OpenClaim := { program := "ytfhpmpladbelaaa", sum := "7b20035acc3f9d0c3320ea7bdc2143b454a3e110d15213e155db27f5b0f178f2", func := "loop.example/carrytriangles/laws.FnTimesLeft", spec := "fnTimesLeft", unfollowed := true, recurses := true, apart := false, narrowed := true }
def FnTimesLeftUptoSaid : Prop := fnTimesLeftUptoRow.holds Try.pinned (OpenSpec.upto fnTimesLeftSpec)

/-- 'laws.FnExactLeftOf', WHERE WHAT IT READS IS OF BULK AT MOST 1048576: true; the input reads as it did. -/
def fnExactLeftOfUptoRow : OpenClaim := { program := "ytfhpmpladbelaaa", sum := "7b20035acc3f9d0c3320ea7bdc2143b454a3e110d15213e155db27f5b0f178f2", func := "loop.example/carrytriangles/laws.FnExactLeftOf", spec := "fnExactLeftOf", inPlace := ["sync/atomic.LoadUint32", "(*internal/sync.Mutex).Lock", "internal/race.Disable", "sync/atomic.CompareAndSwapInt32", "internal/race.Enable", "internal/race.Acquire", "(*internal/sync.Mutex).lockSlow", "internal/sync.runtime_canSpin", "internal/sync.runtime_doSpin", "internal/sync.throw", "internal/sync.runtime_nanotime", "internal/sync.runtime_SemacquireMutex", "sync/atomic.AddInt32", "(*internal/sync.Mutex).Unlock", "internal/race.ReleaseMerge", "(*internal/sync.Mutex).unlockSlow", "internal/sync.fatal", "internal/sync.runtime_Semrelease", "sync/atomic.StoreUint32"], unfollowed := true, recurses := true, apart := false, narrowed := true }
def FnExactLeftOfUptoSaid : Prop := fnExactLeftOfUptoRow.holds Try.pinned (OpenSpec.upto fnExactLeftOfSpec)

/-- 'laws.FnExactRowLeft', WHERE WHAT IT READS IS OF BULK AT MOST 1048576: true; the input reads as it did. -/
def fnExactRowLeftUptoRow : OpenClaim := { program := "ytfhpmpladbelaaa", sum := "7b20035acc3f9d0c3320ea7bdc2143b454a3e110d15213e155db27f5b0f178f2", func := "loop.example/carrytriangles/laws.FnExactRowLeft", spec := "fnExactRowLeft", apart := false, narrowed := true }
def FnExactRowLeftUptoSaid : Prop := fnExactRowLeftUptoRow.holds Try.pinned (OpenSpec.upto fnExactRowLeftSpec)

/-- 'laws.FnExactTimesLeft', WHERE WHAT IT READS IS OF BULK AT MOST 1048576: true; the input reads as it did. -/
def fnExactTimesLeftUptoRow : OpenClaim := { program := "ytfhpmpladbelaaa", sum := "7b20035acc3f9d0c3320ea7bdc2143b454a3e110d15213e155db27f5b0f178f2", func := "loop.example/carrytriangles/laws.FnExactTimesLeft", spec := "fnExactTimesLeft", apart := false, narrowed := true }
def FnExactTimesLeftUptoSaid : Prop := fnExactTimesLeftUptoRow.holds Try.pinned (OpenSpec.upto fnExactTimesLeftSpec)

end Rows
end Go.Proofs.Ytfhpmpladbelaaa
