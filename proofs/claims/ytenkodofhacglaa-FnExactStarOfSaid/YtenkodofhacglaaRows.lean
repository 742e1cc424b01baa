/-
  No cell of these rows narrows 'for every input' (looked for: loops, veiled, ifaces, maps, wideKeys, modest, calm, conditions, laid).
  DERIVED. THE GIVEN ROWS OF THIS SEAT. 10 by the template 'for every input the law returns true; each argument reads behind the call as it read before'; 0 by the template 'total and deterministic' (their statements: YtenkodofhacglaaTotals.lean).
  GIVEN WITH THE SEED: the statements are not yours to turn. If you find one false, say at which input.
  Laid BY PROGRAM, IN A SANDBOX (cutbox-rows.mjs): the forced cells as the released guide's own fill.sh prints them over the translation 240dcd7c04ba6ef8… (all of the seat's roots in one cut). By AI agents, Wed Nov 11 2026. No macro, syntax, notation, axiom, sorry.
-/
import Derived.Test.YtenkodofhacglaaChecked
import GoSem.Claim
import GoSem.ClaimJoined
import GoSem.ClaimMapViews
import Derived.JoinedTies
import Derived.KernelRfl
namespace Go.Proofs.Ytenkodofhacglaa
/- THE CELL 'sum', in the pinned program and in every row, IS THE sha256 OF THE DUMP (.gsa) THAT YtenkodofhacglaaProg.lean LOADS. Nothing in Lean hashes anything: it is a label: what it is worth is what the hold of that sum in a sandbox is worth. -/
noncomputable def Try.pinned : Pinned := { name := "ytenkodofhacglaa", sum := "240dcd7c04ba6ef84455eafd74a202bee66f9b6d9ed49ddf12fc97a0f0deb35e", checked := Try.checked }
namespace Rows
def none {H : Type} : Left H := { results := [], args := [] }

/-- 'laws.FnSharedOf': WHATEVER THE INPUT: true; the input reads as it did. -/
def fnSharedOfSpec : ChangeSpec := { name := "fnSharedOf", fn := fun _ => fun
  | [d] => { results := [.lit (.bool true)], args := [d] }
  | _ => none }
def fnSharedOfRow : OpenClaim := { program := "ytenkodofhacglaa", sum := "240dcd7c04ba6ef84455eafd74a202bee66f9b6d9ed49ddf12fc97a0f0deb35e", func := "loop.example/carrytriangles/laws.FnSharedOf", spec := "fnSharedOf", unfollowed := true, recurses := true, apart := false }
def FnSharedOfSaid : Prop := fnSharedOfRow.holds Try.pinned (OpenSpec.ofChange fnSharedOfSpec)

/-- ITS FALSE NEIGHBOUR: 'it returns false'. Refute it at one input. -/
def fnSharedOfWrong : ChangeSpec := { name := "fnSharedOf", fn := fun _ => fun
  | [d] => { results := [.lit (.bool false)], args := [d] }
  | _ => none }
def FnSharedOfWrongFalsely : Prop := fnSharedOfRow.holds Try.pinned (OpenSpec.ofChange fnSharedOfWrong)

/-- 'laws.FnLeastOver': WHATEVER THE INPUT: true; the input reads as it did. -/
def fnLeastOverSpec : ChangeSpec := { name := "fnLeastOver", fn := fun _ => fun
  | [d] => { results := [.lit (.bool true)], args := [d] }
  | _ => none }
def fnLeastOverRow : OpenClaim := { program := "ytenkodofhacglaa", sum := "240dcd7c04ba6ef84455eafd74a202bee66f9b6d9ed49ddf12fc97a0f0deb35e", func := "loop.example/carrytriangles/laws.FnLeastOver", spec := "fnLeastOver", unfollowed := true, recurses := true, apart := false }
def FnLeastOverSaid : Prop := fnLeastOverRow.holds Try.pinned (OpenSpec.ofChange fnLeastOverSpec)

/-- ITS FALSE NEIGHBOUR: 'it returns false'. Refute it at one input. -/
def fnLeastOverWrong : ChangeSpec := { name := "fnLeastOver", fn := fun _ => fun
  | [d] => { results := [.lit (.bool false)], args := [d] }
  | _ => none }
def FnLeastOverWrongFalsely : Prop := fnLeastOverRow.holds Try.pinned (OpenSpec.ofChange fnLeastOverWrong)

/-- 'laws.FnLeastOfAll': WHATEVER THE INPUT: true; the input reads as it did. -/
def fnLeastOfAllSpec : ChangeSpec := { name := "fnLeastOfAll", fn := fun _ => fun
  | [d] => { results := [.lit (.bool true)], args := [d] }
  | _ => none }
def fnLeastOfAllRow : OpenClaim := { program := "ytenkodofhacglaa", sum := "240dcd7c04ba6ef84455eafd74a202bee66f9b6d9ed49ddf12fc97a0f0deb35e", func := "loop.example/carrytriangles/laws.FnLeastOfAll", spec := "fnLeastOfAll", unfollowed := true, recurses := true, apart := false }
def FnLeastOfAllSaid : Prop := fnLeastOfAllRow.holds Try.pinned (OpenSpec.ofChange fnLeastOfAllSpec)

/-- ITS FALSE NEIGHBOUR: 'it returns false'. Refute it at one input. -/
def fnLeastOfAllWrong : ChangeSpec := { name := "fnLeastOfAll", fn := fun _ => fun
  | [d] => { results := [.lit (.bool false)], args := [d] }
  | _ => none }
def FnLeastOfAllWrongFalsely : Prop := fnLeastOfAllRow.holds Try.pinned (OpenSpec.ofChange fnLeastOfAllWrong)

/-- 'laws.FnStarOf': WHATEVER THE INPUT: true; the input reads as it did. -/
def fnStarOfSpec : ChangeSpec := { name := "fnStarOf", fn := fun _ => fun
  | [d] => { results := [.lit (.bool true)], args := [d] }
  | _ => none }
def fnStarOfRow : OpenClaim := { program := "ytenkodofhacglaa", sum := "240dcd7c04ba6ef84455eafd74a202bee66f9b6d9ed49ddf12fc97a0f0deb35e", func := "loop.example/carrytriangles/laws.FnStarOf", spec := "fnStarOf", unfollowed := true, recurses := true, apart := false }
def FnStarOfSaid : Prop := fnStarOfRow.holds Try.pinned (OpenSpec.ofChange fnStarOfSpec)

/-- ITS FALSE NEIGHBOUR: 'it returns false'. Refute it at one input. -/
def fnStarOfWrong : ChangeSpec := { name := "fnStarOf", fn := fun _ => fun
  | [d] => { results := [.lit (.bool false)], args := [d] }
  | _ => none }
def FnStarOfWrongFalsely : Prop := fnStarOfRow.holds Try.pinned (OpenSpec.ofChange fnStarOfWrong)

/-- 'laws.FnTripleOf': WHATEVER THE INPUT: true; the input reads as it did. -/
def fnTripleOfSpec : ChangeSpec := { name := "fnTripleOf", fn := fun _ => fun
  | [d] => { results := [.lit (.bool true)], args := [d] }
  | _ => none }
def fnTripleOfRow : OpenClaim := { program := "ytenkodofhacglaa", sum := "240dcd7c04ba6ef84455eafd74a202bee66f9b6d9ed49ddf12fc97a0f0deb35e", func := "loop.example/carrytriangles/laws.FnTripleOf", spec := "fnTripleOf", unfollowed := true, recurses := true, apart := false }
def FnTripleOfSaid : Prop := fnTripleOfRow.holds Try.pinned (OpenSpec.ofChange fnTripleOfSpec)

/-- ITS FALSE NEIGHBOUR: 'it returns false'. Refute it at one input. -/
def fnTripleOfWrong : ChangeSpec := { name := "fnTripleOf", fn := fun _ => fun
  | [d] => { results := [.lit (.bool false)], args := [d] }
  | _ => none }
def FnTripleOfWrongFalsely : Prop := fnTripleOfRow.holds Try.pinned (OpenSpec.ofChange fnTripleOfWrong)

/-- 'laws.FnExactSharedOf': WHATEVER THE INPUT: true; the input reads as it did. -/
def fnExactSharedOfSpec : ChangeSpec := { name := "fnExactSharedOf", fn := fun _ => fun
  | [d] => { results := [.lit (.bool true)], args := [d] }
  | _ => none }
def fnExactSharedOfRow : OpenClaim := { program := "ytenkodofhacglaa", sum := "240dcd7c04ba6ef84455eafd74a202bee66f9b6d9ed49ddf12fc97a0f0deb35e", func := "loop.example/carrytriangles/laws.FnExactSharedOf", spec := "fnExactSharedOf", unfollowed := true, recurses := true, apart := false }
def FnExactSharedOfSaid : Prop := fnExactSharedOfRow.holds Try.pinned (OpenSpec.ofChange fnExactSharedOfSpec)

/-- ITS FALSE NEIGHBOUR: 'it returns false'. Refute it at one input. -/
def fnExactSharedOfWrong : ChangeSpec := { name := "fnExactSharedOf", fn := fun _ => fun
  | [d] => { results := [.lit (.bool false)], args := [d] }
  | _ => none }
def FnExactSharedOfWrongFalsely : Prop := fnExactSharedOfRow.holds Try.pinned (OpenSpec.ofChange fnExactSharedOfWrong)

/-- 'laws.FnExactLeastOver': WHATEVER THE INPUT: true; the input reads as it did. -/
def fnExactLeastOverSpec : ChangeSpec := { name := "fnExactLeastOver", fn := fun _ => fun
  | [d] => { results := [.lit (.bool true)], args := [d] }
  | _ => none }
def fnExactLeastOverRow : OpenClaim := { program := "ytenkodofhacglaa", sum := "240dcd7c04ba6ef84455eafd74a202bee66f9b6d9ed49ddf12fc97a0f0deb35e", func := "loop.example/carrytriangles/laws.FnExactLeastOver", spec := "fnExactLeastOver", unfollowed := true, recurses := true, apart := false }
def FnExactLeastOverSaid : Prop := fnExactLeastOverRow.holds Try.pinned (OpenSpec.ofChange fnExactLeastOverSpec)

/-- ITS FALSE NEIGHBOUR: 'it returns false'. Refute it at one input. -/
def fnExactLeastOverWrong : ChangeSpec := { name := "fnExactLeastOver", fn := fun _ => fun
  | [d] => { results := [.lit (.bool false)], args := [d] }
  | _ => none }
def FnExactLeastOverWrongFalsely : Prop := fnExactLeastOverRow.holds Try.pinned (OpenSpec.ofChange fnExactLeastOverWrong)

/-- 'laws.FnExactLeastOfAll': WHATEVER THE INPUT: true; the input reads as it did. -/
def fnExactLeastOfAllSpec : ChangeSpec := { name := "fnExactLeastOfAll", fn := fun _ => fun
  | [d] => { results := [.lit (.bool true)], args := [d] }
  | _ => none }
def fnExactLeastOfAllRow : OpenClaim := { program := "ytenkodofhacglaa", sum := "240dcd7c04ba6ef84455eafd74a202bee66f9b6d9ed49ddf12fc97a0f0deb35e", func := "loop.example/carrytriangles/laws.FnExactLeastOfAll", spec := "fnExactLeastOfAll", unfollowed := true, recurses := true, apart := false }
def FnExactLeastOfAllSaid : Prop := fnExactLeastOfAllRow.holds Try.pinned (OpenSpec.ofChange fnExactLeastOfAllSpec)

/-- ITS FALSE NEIGHBOUR: 'it returns false'. Refute it at one input. -/
def fnExactLeastOfAllWrong : ChangeSpec := { name := "fnExactLeastOfAll", fn := fun _ => fun
  | [d] => { results := [.lit (.bool false)], args := [d] }
  | _ => none }
def FnExactLeastOfAllWrongFalsely : Prop := fnExactLeastOfAllRow.holds Try.pinned (OpenSpec.ofChange fnExactLeastOfAllWrong)

/-- 'laws.FnExactStarOf': WHATEVER THE INPUT: true; the input reads as it did. -/
def fnExactStarOfSpec : ChangeSpec := { name := "fnExactStarOf", fn := fun _ => fun
  | [d1, d2] => { results := [.lit (.bool true)], args := [d1, d2] }
  | _ => none }
def fnExactStarOfRow : OpenClaim := { program := "ytenkodofhacglaa", sum := "240dcd7c04ba6ef84455eafd74a202bee66f9b6d9ed49ddf12fc97a0f0deb35e", func := "loop.example/carrytriangles/laws.FnExactStarOf", spec := "fnExactStarOf", unfollowed := true, recurses := true, apart := false }
def FnExactStarOfSaid : Prop := fnExactStarOfRow.holds Try.pinned (OpenSpec.ofChange fnExactStarOfSpec)

/-- ITS FALSE NEIGHBOUR: 'it returns false'. Refute it at one input. -/
def fnExactStarOfWrong : ChangeSpec := { name := "fnExactStarOf", fn := fun _ => fun
  | [d1, d2] => { results := [.lit (.bool false)], args := [d1, d2] }
  | _ => none }
def FnExactStarOfWrongFalsely : Prop := fnExactStarOfRow.holds Try.pinned (OpenSpec.ofChange fnExactStarOfWrong)

/-- 'laws.FnExactTripleOf': WHATEVER THE INPUT: true; the input reads as it did. -/
def fnExactTripleOfSpec : ChangeSpec := { name := "fnExactTripleOf", fn := fun _ => fun
  | [d1, d2, d3] => { results := [.lit (.bool true)], args := [d1, d2, d3] }
  | _ => none }
def fnExactTripleOfRow : OpenClaim := { program := "ytenkodofhacglaa", sum := "240dcd7c04ba6ef84455eafd74a202bee66f9b6d9ed49ddf12fc97a0f0deb35e", func := "loop.example/carrytriangles/laws.FnExactTripleOf", spec := "fnExactTripleOf", unfollowed := true, recurses := true, apart := false }
def FnExactTripleOfSaid : Prop := fnExactTripleOfRow.holds Try.pinned (OpenSpec.ofChange fnExactTripleOfSpec)

/-- ITS FALSE NEIGHBOUR: 'it returns false'. Refute it at one input. -/
def fnExactTripleOfWrong : ChangeSpec := { name := "fnExactTripleOf", fn := fun _ => fun
  | [d1, d2, d3] => { results := [.lit (.bool false)], args := [d1, d2, d3] }
  | _ => none }
def FnExactTripleOfWrongFalsely : Prop := fnExactTripleOfRow.holds Try.pinned (OpenSpec.ofChange fnExactTripleOfWrong)

/- THE SECOND FORM. 'bulk': how many values and letters a reading holds, each counted each time it is reached (what is shared counts as often as it is met; a slice's spare places count too). A statement '..UptoSaid' is the law's where the arguments, and the package variables that the reading takes, are together of bulk at most 1048576: NARROWER than '..Said'. Prove '..Said' where nothing that the law and all that it calls make is longer than what came in: it says more and counts as full. Else prove '..UptoSaid'. A law counts once. -/
mutual
def uptoBulk {H : Type} : DataW H → Nat
  | .lit (.string bytes) => bytes.length + 1
  | .lit _ => 1
  | .nil => 1
  | .ptr d => uptoBulk d + 1
  | .slice elems spare => uptoBulkAll elems + uptoBulkAll spare + 1
  | .agg parts => uptoBulkAll parts + 1
  | .iface _ d => uptoBulk d + 1
  | .map entries => uptoBulkEntries entries + 1
  | .held _ => 1
def uptoBulkAll {H : Type} : List (DataW H) → Nat
  | [] => 0
  | d :: r => uptoBulk d + uptoBulkAll r
def uptoBulkEntries {H : Type} : List (Lit × DataW H) → Nat
  | [] => 0
  | x :: r => uptoBulkEntry x + uptoBulkEntries r
def uptoBulkEntry {H : Type} : Lit × DataW H → Nat
  | (.string bytes, d) => bytes.length + uptoBulk d + 1
  | (_, d) => uptoBulk d + 1
 end
def uptoSmall : (H : Type) → List (DataW H) → Bool := fun _ ds => decide (uptoBulkAll ds ≤ 1048576)
def OpenSpec.upto (s : _root_.Go.ChangeSpec) : _root_.Go.OpenSpec := { _root_.Go.OpenSpec.ofChange s with cond := some uptoSmall }

/-- 'laws.FnSharedOf', WHERE WHAT IT READS IS OF BULK AT MOST 1048576: true; the input reads as it did. -/
def fnSharedOfUptoRow : OpenClaim := { program := "ytenkodofhacglaa", sum := "240dcd7c04ba6ef84455eafd74a202bee66f9b6d9ed49ddf12fc97a0f0deb35e", func := "loop.example/carrytriangles/laws.FnSharedOf", spec := "fnSharedOf", unfollowed := true, recurses := true, apart := false, narrowed := true }
def FnSharedOfUptoSaid : Prop := fnSharedOfUptoRow.holds Try.pinned (OpenSpec.upto fnSharedOfSpec)

/-- 'laws.FnLeastOver', WHERE WHAT IT READS IS OF BULK AT MOST 1048576: true; the input reads as it did. -/
def fnLeastOverUptoRow : OpenClaim := { program := "ytenkodofhacglaa", sum := "240dcd7c04ba6ef84455eafd74a202bee66f9b6d9ed49ddf12fc97a0f0deb35e", func := "loop.example/carrytriangles/laws.FnLeastOver", spec := "fnLeastOver", unfollowed := true, recurses := true, apart := false, narrowed := true }
def FnLeastOverUptoSaid : Prop := fnLeastOverUptoRow.holds Try.pinned (OpenSpec.upto fnLeastOverSpec)

/-- 'laws.FnLeastOfAll', WHERE WHAT IT READS IS OF BULK AT MOST 1048576: true; the input reads as it did. -/
def fnLeastOfAllUptoRow : OpenClaim := { program := "ytenkodofhacglaa", sum := "240dcd7c04ba6ef84455eafd74a202bee66f9b6d9ed49ddf12fc97a0f0deb35e", func := "loop.example/carrytriangles/laws.FnLeastOfAll", spec := "fnLeastOfAll", unfollowed := true, recurses := true, apart := false, narrowed := true }
def FnLeastOfAllUptoSaid : Prop := fnLeastOfAllUptoRow.holds Try.pinned (OpenSpec.upto fnLeastOfAllSpec)

/-- 'laws.FnStarOf', WHERE WHAT IT READS IS OF BULK AT MOST 1048576: true; the input reads as it did. -/
def fnStarOfUptoRow : OpenClaim := { program := "ytenkodofhacglaa", sum := "240dcd7c04ba6ef84455eafd74a202bee66f9b6d9ed49ddf12fc97a0f0deb35e", func := "loop.example/carrytriangles/laws.FnStarOf", spec := "fnStarOf", unfollowed := true, recurses := true, apart := false, narrowed := true }
def FnStarOfUptoSaid : Prop := fnStarOfUptoRow.holds Try.pinned (OpenSpec.upto fnStarOfSpec)

/-- 'laws.FnTripleOf', WHERE WHAT IT READS IS OF BULK AT MOST 1048576: true; the input reads as it did. -/
def fnTripleOfUptoRow : OpenClaim := { program := "ytenkodofhacglaa", sum := "240dcd7c04ba6ef84455eafd74a202bee66f9b6d9ed49ddf12fc97a0f0deb35e", func := "loop.example/carrytriangles/laws.FnTripleOf", spec := "fnTripleOf", unfollowed := true, recurses := true, apart := false, narrowed := true }
def FnTripleOfUptoSaid : Prop := fnTripleOfUptoRow.holds Try.pinned (OpenSpec.upto fnTripleOfSpec)

/-- 'laws.FnExactSharedOf', WHERE WHAT IT READS IS OF BULK AT MOST 1048576: true; the input reads as it did. -/
def fnExactSharedOfUptoRow : OpenClaim := { program := "ytenkodofhacglaa", sum := "240dcd7c04ba6ef84455eafd74a202bee66f9b6d9ed49ddf12fc97a0f0deb35e", func := "loop.example/carrytriangles/laws.FnExactSharedOf", spec := "fnExactSharedOf", unfollowed := true, recurses := true, apart := false, narrowed := true }
def FnExactSharedOfUptoSaid : Prop := fnExactSharedOfUptoRow.holds Try.pinned (OpenSpec.upto fnExactSharedOfSpec)

/-- 'laws.FnExactLeastOver', WHERE WHAT IT READS IS OF BULK AT MOST 1048576: true; the input reads as it did. -/
def fnExactLeastOverUptoRow : OpenClaim := { program := "ytenkodofhacglaa", sum := "240dcd7c04ba6ef84455eafd74a202bee66f9b6d9ed49ddf12fc97a0f0deb35e", func := "loop.example/carrytriangles/laws.FnExactLeastOver", spec := "fnExactLeastOver", unfollowed := true, recurses := true, apart := false, narrowed := true }
def FnExactLeastOverUptoSaid : Prop := fnExactLeastOverUptoRow.holds Try.pinned (OpenSpec.upto fnExactLeastOverSpec)

/-- 'laws.FnExactLeastOfAll', WHERE WHAT IT READS IS OF BULK AT MOST 1048576: true; the input reads as it did. -/
def fnExactLeastOfAllUptoRow : OpenClaim := { program := "ytenkodofhacglaa", sum := "240dcd7c04ba6ef84455eafd74a202bee66f9b6d9ed49ddf12fc97a0f0deb35e", func := "loop.example/carrytriangles/laws.FnExactLeastOfAll", spec := "fnExactLeastOfAll", unfollowed := true, recurses := true, apart := false, narrowed := true }
def FnExactLeastOfAllUptoSaid : Prop := fnExactLeastOfAllUptoRow.holds Try.pinned (OpenSpec.upto fnExactLeastOfAllSpec)

/-- 'laws.FnExactStarOf', WHERE WHAT IT READS IS OF BULK AT MOST 1048576: true; the input reads as it did. -/
def fnExactStarOfUptoRow : OpenClaim := { program := "ytenkodofhacglaa", sum := "240dcd7c04ba6ef84455eafd74a202bee66f9b6d9ed49ddf12fc97a0f0deb35e", func := "loop.example/carrytriangles/laws.FnExactStarOf", spec := "fnExactStarOf", unfollowed := true, recurses := true, apart := false, narrowed := true }
def FnExactStarOfUptoSaid : Prop := fnExactStarOfUptoRow.holds Try.pinned (OpenSpec.upto fnExactStarOfSpec)

/-- 'laws.FnExactTripleOf', WHERE WHAT IT READS IS OF BULK AT MOST 1048576: true; the input reads as it did. -/
def fnExactTripleOfUptoRow : OpenClaim := { program := "ytenkodofhacglaa", sum := "240dcd7c04ba6ef84455eafd74a202bee66f9b6d9ed49ddf12fc97a0f0deb35e", func := "loop.example/carrytriangles/laws.FnExactTripleOf", spec := "fnExactTripleOf", unfollowed := true, recurses := true, apart := false, narrowed := true }
def FnExactTripleOfUptoSaid : Prop := fnExactTripleOfUptoRow.holds Try.pinned (OpenSpec.upto fnExactTripleOfSpec)

end Rows
end Go.Proofs.Ytenkodofhacglaa
