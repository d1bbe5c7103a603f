/-
  DERIVED. GIVEN WITH THE SEED: THE CARDS: each row of YtlalbcdbcalaiabDoorRows.lean that lists a variable, with what it lists TIED to the program's text (the seventh form; the later family's looks); each row that meets fmt, with fmt's text TOLD by the authors' own Lean function (tested against real Go, not proved from fmt's source: count such statements apart). THE CARD IS WHAT COUNTS. Prove the row's statement (the work); the ties are given (YtlalbcdbcalaiabDoorTie.lean); close each card by the builder's one call (the guide's Derived/Test/ToyasCard.lean, 'card_holds'). Laid BY PROGRAM, IN A SANDBOX (cutbox-door.mjs). By AI agents, Wed Nov 11 2026. No macro, syntax, notation, axiom, sorry.
-/
import Derived.Test.YtlalbcdbcalaiabDoorRows
import GoSem.ClaimSeven
namespace Go.Proofs.YtlalbcdbcalaiabDoor
namespace Rows

/-- THE TIED CARD OF 'laws.FnExactKeyCode'. -/
def fnExactKeyCodeCard : Claim7 := { stood := { row := fnExactKeyCodeRow, standIns := [], harness := (true, "fc16652fad3f9be32e1b0e71a23712ef56c87699ece63a997a53d3ec44793bf3"), looks := false }, kinds := [], alts := [], laidByText := true, laidKinds := [.data, .pinned], laidTests := true, laidLooks := .later }
def FnExactKeyCodeCardSaid : Prop := Claim7.holds Tryd.pinned (.plain (OpenSpec.ofChange fnExactKeyCodeSpec)) fnExactKeyCodeCard

/-- THE TIED CARD OF 'laws.FnExactRowBytes'. -/
def fnExactRowBytesCard : Claim7 := { stood := { row := fnExactRowBytesRow, standIns := [], harness := (true, "fc16652fad3f9be32e1b0e71a23712ef56c87699ece63a997a53d3ec44793bf3"), looks := false }, kinds := [], alts := [], laidByText := true, laidKinds := [.data, .pinned], laidTests := true, laidLooks := .later }
def FnExactRowBytesCardSaid : Prop := Claim7.holds Tryd.pinned (.plain (OpenSpec.ofChange fnExactRowBytesSpec)) fnExactRowBytesCard

/-- THE TIED CARD OF 'laws.FnExactRowsBytes'. -/
def fnExactRowsBytesCard : Claim7 := { stood := { row := fnExactRowsBytesRow, standIns := [], harness := (true, "fc16652fad3f9be32e1b0e71a23712ef56c87699ece63a997a53d3ec44793bf3"), looks := false }, kinds := [], alts := [], laidByText := true, laidKinds := [.data, .pinned], laidTests := true, laidLooks := .later }
def FnExactRowsBytesCardSaid : Prop := Claim7.holds Tryd.pinned (.plain (OpenSpec.ofChange fnExactRowsBytesSpec)) fnExactRowsBytesCard

/-- THE SECOND FORM's CARD OF 'laws.FnExactKeyCode'. -/
def fnExactKeyCodeUptoCard : Claim7 := { stood := { row := fnExactKeyCodeUptoRow, standIns := [], harness := (true, "fc16652fad3f9be32e1b0e71a23712ef56c87699ece63a997a53d3ec44793bf3"), looks := false }, kinds := [], alts := [], laidByText := true, laidKinds := [.data, .pinned], laidTests := true, laidLooks := .later }
def FnExactKeyCodeUptoCardSaid : Prop := Claim7.holds Tryd.pinned (.plain (OpenSpec.upto fnExactKeyCodeSpec)) fnExactKeyCodeUptoCard

/-- THE SECOND FORM's CARD OF 'laws.FnExactRowBytes'. -/
def fnExactRowBytesUptoCard : Claim7 := { stood := { row := fnExactRowBytesUptoRow, standIns := [], harness := (true, "fc16652fad3f9be32e1b0e71a23712ef56c87699ece63a997a53d3ec44793bf3"), looks := false }, kinds := [], alts := [], laidByText := true, laidKinds := [.data, .pinned], laidTests := true, laidLooks := .later }
def FnExactRowBytesUptoCardSaid : Prop := Claim7.holds Tryd.pinned (.plain (OpenSpec.upto fnExactRowBytesSpec)) fnExactRowBytesUptoCard

/-- THE SECOND FORM's CARD OF 'laws.FnExactRowsBytes'. -/
def fnExactRowsBytesUptoCard : Claim7 := { stood := { row := fnExactRowsBytesUptoRow, standIns := [], harness := (true, "fc16652fad3f9be32e1b0e71a23712ef56c87699ece63a997a53d3ec44793bf3"), looks := false }, kinds := [], alts := [], laidByText := true, laidKinds := [.data, .pinned], laidTests := true, laidLooks := .later }
def FnExactRowsBytesUptoCardSaid : Prop := Claim7.holds Tryd.pinned (.plain (OpenSpec.upto fnExactRowsBytesSpec)) fnExactRowsBytesUptoCard
end Rows
end Go.Proofs.YtlalbcdbcalaiabDoor
