/-
  DERIVED. GIVEN WITH THE SEED: THE CARDS: each row of YtghfmoanpgaijaaDoorRows.lean that lists a variable, with what it lists TIED to the program's text (the seventh form; the later family's looks); each row that meets fmt, with fmt's text TOLD by the authors' own Lean function (tested against real Go, not proved from fmt's source: count such statements apart). THE CARD IS WHAT COUNTS. Prove the row's statement (the work); the ties are given (YtghfmoanpgaijaaDoorTie.lean); close each card by the builder's one call (the guide's Derived/Test/ToyasCard.lean, 'card_holds'). Laid BY PROGRAM, IN A SANDBOX (cutbox-door.mjs). By AI agents, Wed Nov 11 2026. No macro, syntax, notation, axiom, sorry.
-/
import Derived.Test.YtghfmoanpgaijaaDoorRows
import GoSem.ClaimSeven
namespace Go.Proofs.YtghfmoanpgaijaaDoor
namespace Rows

/-- THE TIED CARD OF 'laws.FnWayOk'. -/
def fnWayOkCard : Claim7 := { stood := { row := fnWayOkRow, standIns := [], harness := (true, "4619299fb2903c9a003e2ea83cf8131c5126b968914160dae8395dc452b51164"), looks := false }, kinds := [], alts := [], laidByText := true, laidKinds := [.data, .pinned], laidTests := true, laidLooks := .later }
def FnWayOkCardSaid : Prop := Claim7.holds Tryd.pinned (.plain (OpenSpec.ofChange fnWayOkSpec)) fnWayOkCard

/-- THE TIED CARD OF 'laws.FnWaysTold'. -/
def fnWaysToldCard : Claim7 := { stood := { row := fnWaysToldRow, standIns := [], harness := (true, "4619299fb2903c9a003e2ea83cf8131c5126b968914160dae8395dc452b51164"), looks := false }, kinds := [], alts := [], laidByText := true, laidKinds := [.data, .pinned], laidTests := true, laidLooks := .later }
def FnWaysToldCardSaid : Prop := Claim7.holds Tryd.pinned (.plain (OpenSpec.ofChange fnWaysToldSpec)) fnWaysToldCard

/-- THE TIED CARD OF 'laws.FnPlaceOf'. -/
def fnPlaceOfCard : Claim7 := { stood := { row := fnPlaceOfRow, standIns := [], harness := (true, "4619299fb2903c9a003e2ea83cf8131c5126b968914160dae8395dc452b51164"), looks := false }, kinds := [], alts := [], laidByText := true, laidKinds := [.data, .pinned], laidTests := true, laidLooks := .later }
def FnPlaceOfCardSaid : Prop := Claim7.holds Tryd.pinned (.plain (OpenSpec.ofChange fnPlaceOfSpec)) fnPlaceOfCard

/-- THE TIED CARD OF 'laws.FnFirstBack'. -/
def fnFirstBackCard : Claim7 := { stood := { row := fnFirstBackRow, standIns := [], harness := (true, "4619299fb2903c9a003e2ea83cf8131c5126b968914160dae8395dc452b51164"), looks := false }, kinds := [], alts := [], laidByText := true, laidKinds := [.data, .pinned], laidTests := true, laidLooks := .later }
def FnFirstBackCardSaid : Prop := Claim7.holds Tryd.pinned (.plain (OpenSpec.ofChange fnFirstBackSpec)) fnFirstBackCard

/-- THE TIED CARD OF 'laws.FnExactWayOk'. -/
def fnExactWayOkCard : Claim7 := { stood := { row := fnExactWayOkRow, standIns := [], harness := (true, "4619299fb2903c9a003e2ea83cf8131c5126b968914160dae8395dc452b51164"), looks := false }, kinds := [], alts := [], laidByText := true, laidKinds := [.data, .pinned], laidTests := true, laidLooks := .later }
def FnExactWayOkCardSaid : Prop := Claim7.holds Tryd.pinned (.plain (OpenSpec.ofChange fnExactWayOkSpec)) fnExactWayOkCard

/-- THE TIED CARD OF 'laws.FnExactPlaceOf'. -/
def fnExactPlaceOfCard : Claim7 := { stood := { row := fnExactPlaceOfRow, standIns := [], harness := (true, "4619299fb2903c9a003e2ea83cf8131c5126b968914160dae8395dc452b51164"), looks := false }, kinds := [], alts := [], laidByText := true, laidKinds := [.data, .pinned], laidTests := true, laidLooks := .later }
def FnExactPlaceOfCardSaid : Prop := Claim7.holds Tryd.pinned (.plain (OpenSpec.ofChange fnExactPlaceOfSpec)) fnExactPlaceOfCard

/-- THE TIED CARD OF 'laws.FnExactFirstBack'. -/
def fnExactFirstBackCard : Claim7 := { stood := { row := fnExactFirstBackRow, standIns := [], harness := (true, "4619299fb2903c9a003e2ea83cf8131c5126b968914160dae8395dc452b51164"), looks := false }, kinds := [], alts := [], laidByText := true, laidKinds := [.data, .pinned], laidTests := true, laidLooks := .later }
def FnExactFirstBackCardSaid : Prop := Claim7.holds Tryd.pinned (.plain (OpenSpec.ofChange fnExactFirstBackSpec)) fnExactFirstBackCard

/-- THE SECOND FORM's CARD OF 'laws.FnWayOk'. -/
def fnWayOkUptoCard : Claim7 := { stood := { row := fnWayOkUptoRow, standIns := [], harness := (true, "4619299fb2903c9a003e2ea83cf8131c5126b968914160dae8395dc452b51164"), looks := false }, kinds := [], alts := [], laidByText := true, laidKinds := [.data, .pinned], laidTests := true, laidLooks := .later }
def FnWayOkUptoCardSaid : Prop := Claim7.holds Tryd.pinned (.plain (OpenSpec.upto fnWayOkSpec)) fnWayOkUptoCard

/-- THE SECOND FORM's CARD OF 'laws.FnWaysTold'. -/
def fnWaysToldUptoCard : Claim7 := { stood := { row := fnWaysToldUptoRow, standIns := [], harness := (true, "4619299fb2903c9a003e2ea83cf8131c5126b968914160dae8395dc452b51164"), looks := false }, kinds := [], alts := [], laidByText := true, laidKinds := [.data, .pinned], laidTests := true, laidLooks := .later }
def FnWaysToldUptoCardSaid : Prop := Claim7.holds Tryd.pinned (.plain (OpenSpec.upto fnWaysToldSpec)) fnWaysToldUptoCard

/-- THE SECOND FORM's CARD OF 'laws.FnPlaceOf'. -/
def fnPlaceOfUptoCard : Claim7 := { stood := { row := fnPlaceOfUptoRow, standIns := [], harness := (true, "4619299fb2903c9a003e2ea83cf8131c5126b968914160dae8395dc452b51164"), looks := false }, kinds := [], alts := [], laidByText := true, laidKinds := [.data, .pinned], laidTests := true, laidLooks := .later }
def FnPlaceOfUptoCardSaid : Prop := Claim7.holds Tryd.pinned (.plain (OpenSpec.upto fnPlaceOfSpec)) fnPlaceOfUptoCard

/-- THE SECOND FORM's CARD OF 'laws.FnFirstBack'. -/
def fnFirstBackUptoCard : Claim7 := { stood := { row := fnFirstBackUptoRow, standIns := [], harness := (true, "4619299fb2903c9a003e2ea83cf8131c5126b968914160dae8395dc452b51164"), looks := false }, kinds := [], alts := [], laidByText := true, laidKinds := [.data, .pinned], laidTests := true, laidLooks := .later }
def FnFirstBackUptoCardSaid : Prop := Claim7.holds Tryd.pinned (.plain (OpenSpec.upto fnFirstBackSpec)) fnFirstBackUptoCard

/-- THE SECOND FORM's CARD OF 'laws.FnExactWayOk'. -/
def fnExactWayOkUptoCard : Claim7 := { stood := { row := fnExactWayOkUptoRow, standIns := [], harness := (true, "4619299fb2903c9a003e2ea83cf8131c5126b968914160dae8395dc452b51164"), looks := false }, kinds := [], alts := [], laidByText := true, laidKinds := [.data, .pinned], laidTests := true, laidLooks := .later }
def FnExactWayOkUptoCardSaid : Prop := Claim7.holds Tryd.pinned (.plain (OpenSpec.upto fnExactWayOkSpec)) fnExactWayOkUptoCard

/-- THE SECOND FORM's CARD OF 'laws.FnExactPlaceOf'. -/
def fnExactPlaceOfUptoCard : Claim7 := { stood := { row := fnExactPlaceOfUptoRow, standIns := [], harness := (true, "4619299fb2903c9a003e2ea83cf8131c5126b968914160dae8395dc452b51164"), looks := false }, kinds := [], alts := [], laidByText := true, laidKinds := [.data, .pinned], laidTests := true, laidLooks := .later }
def FnExactPlaceOfUptoCardSaid : Prop := Claim7.holds Tryd.pinned (.plain (OpenSpec.upto fnExactPlaceOfSpec)) fnExactPlaceOfUptoCard

/-- THE SECOND FORM's CARD OF 'laws.FnExactFirstBack'. -/
def fnExactFirstBackUptoCard : Claim7 := { stood := { row := fnExactFirstBackUptoRow, standIns := [], harness := (true, "4619299fb2903c9a003e2ea83cf8131c5126b968914160dae8395dc452b51164"), looks := false }, kinds := [], alts := [], laidByText := true, laidKinds := [.data, .pinned], laidTests := true, laidLooks := .later }
def FnExactFirstBackUptoCardSaid : Prop := Claim7.holds Tryd.pinned (.plain (OpenSpec.upto fnExactFirstBackSpec)) fnExactFirstBackUptoCard
end Rows
end Go.Proofs.YtghfmoanpgaijaaDoor
