/-
  DERIVED. GIVEN WITH THE SEED: THE CARDS: each row of YtgeepfoknhhcjaaDoorRows.lean that lists a variable, with what it lists TIED to the program's text (the seventh form; the later family's looks); each row that meets fmt, with fmt's text TOLD by the authors' own Lean function (tested against real Go, not proved from fmt's source: count such statements apart). THE CARD IS WHAT COUNTS. Prove the row's statement (the work); the ties are given (YtgeepfoknhhcjaaDoorTie.lean); close each card by the builder's one call (the guide's Derived/Test/ToyasCard.lean, 'card_holds'). Laid BY PROGRAM, IN A SANDBOX (cutbox-door.mjs). By AI agents, Wed Nov 11 2026. No macro, syntax, notation, axiom, sorry.
-/
import Derived.Test.YtgeepfoknhhcjaaDoorRows
import GoSem.ClaimSeven
namespace Go.Proofs.YtgeepfoknhhcjaaDoor
namespace Rows

/-- THE TIED CARD OF 'laws.FnKeys'. -/
def fnKeysCard : Claim7 := { stood := { row := fnKeysRow, standIns := [], harness := (true, "0277fc140085a09644245523cadb989e15b100ae31de80e60e39dab36c7cd70d"), looks := false }, kinds := [], alts := [], laidByText := true, laidKinds := [.data, .pinned], laidTests := true, laidLooks := .later }
def FnKeysCardSaid : Prop := Claim7.holds Tryd.pinned (.plain (OpenSpec.ofChange fnKeysSpec)) fnKeysCard

/-- THE TIED CARD OF 'laws.FnKeyOrder'. -/
def fnKeyOrderCard : Claim7 := { stood := { row := fnKeyOrderRow, standIns := [], harness := (true, "0277fc140085a09644245523cadb989e15b100ae31de80e60e39dab36c7cd70d"), looks := false }, kinds := [], alts := [], laidByText := true, laidKinds := [.data, .pinned], laidTests := true, laidLooks := .later }
def FnKeyOrderCardSaid : Prop := Claim7.holds Tryd.pinned (.plain (OpenSpec.ofChange fnKeyOrderSpec)) fnKeyOrderCard

/-- THE TIED CARD OF 'laws.FnRows'. -/
def fnRowsCard : Claim7 := { stood := { row := fnRowsRow, standIns := [], harness := (true, "0277fc140085a09644245523cadb989e15b100ae31de80e60e39dab36c7cd70d"), looks := false }, kinds := [], alts := [], laidByText := true, laidKinds := [.data, .pinned], laidTests := true, laidLooks := .later }
def FnRowsCardSaid : Prop := Claim7.holds Tryd.pinned (.plain (OpenSpec.ofChange fnRowsSpec)) fnRowsCard

/-- THE TIED CARD OF 'laws.FnLess'. -/
def fnLessCard : Claim7 := { stood := { row := fnLessRow, standIns := [], harness := (true, "0277fc140085a09644245523cadb989e15b100ae31de80e60e39dab36c7cd70d"), looks := false }, kinds := [], alts := [], laidByText := true, laidKinds := [.data, .pinned], laidTests := true, laidLooks := .later }
def FnLessCardSaid : Prop := Claim7.holds Tryd.pinned (.plain (OpenSpec.ofChange fnLessSpec)) fnLessCard

/-- THE TIED CARD OF 'laws.FnRowLists'. -/
def fnRowListsCard : Claim7 := { stood := { row := fnRowListsRow, standIns := [], harness := (true, "0277fc140085a09644245523cadb989e15b100ae31de80e60e39dab36c7cd70d"), looks := false }, kinds := [], alts := [], laidByText := true, laidKinds := [.data, .pinned], laidTests := true, laidLooks := .later }
def FnRowListsCardSaid : Prop := Claim7.holds Tryd.pinned (.plain (OpenSpec.ofChange fnRowListsSpec)) fnRowListsCard

/-- THE TIED CARD OF 'laws.FnKeyPieces'. -/
def fnKeyPiecesCard : Claim7 := { stood := { row := fnKeyPiecesRow, standIns := [], harness := (true, "0277fc140085a09644245523cadb989e15b100ae31de80e60e39dab36c7cd70d"), looks := false }, kinds := [], alts := [], laidByText := true, laidKinds := [.data, .pinned], laidTests := true, laidLooks := .later }
def FnKeyPiecesCardSaid : Prop := Claim7.holds Tryd.pinned (.plain (OpenSpec.ofChange fnKeyPiecesSpec)) fnKeyPiecesCard

/-- THE TIED CARD OF 'laws.FnRowLong'. -/
def fnRowLongCard : Claim7 := { stood := { row := fnRowLongRow, standIns := [], harness := (true, "0277fc140085a09644245523cadb989e15b100ae31de80e60e39dab36c7cd70d"), looks := false }, kinds := [], alts := [], laidByText := true, laidKinds := [.data, .pinned], laidTests := true, laidLooks := .later }
def FnRowLongCardSaid : Prop := Claim7.holds Tryd.pinned (.plain (OpenSpec.ofChange fnRowLongSpec)) fnRowLongCard

/-- THE TIED CARD OF 'laws.FnExactRowsBytes'. -/
def fnExactRowsBytesCard : Claim7 := { stood := { row := fnExactRowsBytesRow, standIns := [], harness := (true, "0277fc140085a09644245523cadb989e15b100ae31de80e60e39dab36c7cd70d"), looks := false }, kinds := [], alts := [], laidByText := true, laidKinds := [.data, .pinned], laidTests := true, laidLooks := .later }
def FnExactRowsBytesCardSaid : Prop := Claim7.holds Tryd.pinned (.plain (OpenSpec.ofChange fnExactRowsBytesSpec)) fnExactRowsBytesCard

/-- THE SECOND FORM's CARD OF 'laws.FnKeys'. -/
def fnKeysUptoCard : Claim7 := { stood := { row := fnKeysUptoRow, standIns := [], harness := (true, "0277fc140085a09644245523cadb989e15b100ae31de80e60e39dab36c7cd70d"), looks := false }, kinds := [], alts := [], laidByText := true, laidKinds := [.data, .pinned], laidTests := true, laidLooks := .later }
def FnKeysUptoCardSaid : Prop := Claim7.holds Tryd.pinned (.plain (OpenSpec.upto fnKeysSpec)) fnKeysUptoCard

/-- THE SECOND FORM's CARD OF 'laws.FnKeyOrder'. -/
def fnKeyOrderUptoCard : Claim7 := { stood := { row := fnKeyOrderUptoRow, standIns := [], harness := (true, "0277fc140085a09644245523cadb989e15b100ae31de80e60e39dab36c7cd70d"), looks := false }, kinds := [], alts := [], laidByText := true, laidKinds := [.data, .pinned], laidTests := true, laidLooks := .later }
def FnKeyOrderUptoCardSaid : Prop := Claim7.holds Tryd.pinned (.plain (OpenSpec.upto fnKeyOrderSpec)) fnKeyOrderUptoCard

/-- THE SECOND FORM's CARD OF 'laws.FnRows'. -/
def fnRowsUptoCard : Claim7 := { stood := { row := fnRowsUptoRow, standIns := [], harness := (true, "0277fc140085a09644245523cadb989e15b100ae31de80e60e39dab36c7cd70d"), looks := false }, kinds := [], alts := [], laidByText := true, laidKinds := [.data, .pinned], laidTests := true, laidLooks := .later }
def FnRowsUptoCardSaid : Prop := Claim7.holds Tryd.pinned (.plain (OpenSpec.upto fnRowsSpec)) fnRowsUptoCard

/-- THE SECOND FORM's CARD OF 'laws.FnLess'. -/
def fnLessUptoCard : Claim7 := { stood := { row := fnLessUptoRow, standIns := [], harness := (true, "0277fc140085a09644245523cadb989e15b100ae31de80e60e39dab36c7cd70d"), looks := false }, kinds := [], alts := [], laidByText := true, laidKinds := [.data, .pinned], laidTests := true, laidLooks := .later }
def FnLessUptoCardSaid : Prop := Claim7.holds Tryd.pinned (.plain (OpenSpec.upto fnLessSpec)) fnLessUptoCard

/-- THE SECOND FORM's CARD OF 'laws.FnRowLists'. -/
def fnRowListsUptoCard : Claim7 := { stood := { row := fnRowListsUptoRow, standIns := [], harness := (true, "0277fc140085a09644245523cadb989e15b100ae31de80e60e39dab36c7cd70d"), looks := false }, kinds := [], alts := [], laidByText := true, laidKinds := [.data, .pinned], laidTests := true, laidLooks := .later }
def FnRowListsUptoCardSaid : Prop := Claim7.holds Tryd.pinned (.plain (OpenSpec.upto fnRowListsSpec)) fnRowListsUptoCard

/-- THE SECOND FORM's CARD OF 'laws.FnKeyPieces'. -/
def fnKeyPiecesUptoCard : Claim7 := { stood := { row := fnKeyPiecesUptoRow, standIns := [], harness := (true, "0277fc140085a09644245523cadb989e15b100ae31de80e60e39dab36c7cd70d"), looks := false }, kinds := [], alts := [], laidByText := true, laidKinds := [.data, .pinned], laidTests := true, laidLooks := .later }
def FnKeyPiecesUptoCardSaid : Prop := Claim7.holds Tryd.pinned (.plain (OpenSpec.upto fnKeyPiecesSpec)) fnKeyPiecesUptoCard

/-- THE SECOND FORM's CARD OF 'laws.FnRowLong'. -/
def fnRowLongUptoCard : Claim7 := { stood := { row := fnRowLongUptoRow, standIns := [], harness := (true, "0277fc140085a09644245523cadb989e15b100ae31de80e60e39dab36c7cd70d"), looks := false }, kinds := [], alts := [], laidByText := true, laidKinds := [.data, .pinned], laidTests := true, laidLooks := .later }
def FnRowLongUptoCardSaid : Prop := Claim7.holds Tryd.pinned (.plain (OpenSpec.upto fnRowLongSpec)) fnRowLongUptoCard

/-- THE SECOND FORM's CARD OF 'laws.FnExactRowsBytes'. -/
def fnExactRowsBytesUptoCard : Claim7 := { stood := { row := fnExactRowsBytesUptoRow, standIns := [], harness := (true, "0277fc140085a09644245523cadb989e15b100ae31de80e60e39dab36c7cd70d"), looks := false }, kinds := [], alts := [], laidByText := true, laidKinds := [.data, .pinned], laidTests := true, laidLooks := .later }
def FnExactRowsBytesUptoCardSaid : Prop := Claim7.holds Tryd.pinned (.plain (OpenSpec.upto fnExactRowsBytesSpec)) fnExactRowsBytesUptoCard
end Rows
end Go.Proofs.YtgeepfoknhhcjaaDoor
