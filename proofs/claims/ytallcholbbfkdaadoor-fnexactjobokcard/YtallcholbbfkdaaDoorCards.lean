/-
  DERIVED. GIVEN WITH THE SEED: THE CARDS: each row of YtallcholbbfkdaaDoorRows.lean that lists a variable, with what it lists TIED to the program's text (the seventh form; the later family's looks); each row that meets fmt, with fmt's text TOLD by the authors' own Lean function (tested against real Go, not proved from fmt's source: count such statements apart). THE CARD IS WHAT COUNTS. Prove the row's statement (the work); the ties are given (YtallcholbbfkdaaDoorTie.lean); close each card by the builder's one call (the guide's Derived/Test/ToyasCard.lean, 'card_holds'). Laid BY PROGRAM, IN A SANDBOX (cutbox-door.mjs). By AI agents, Wed Nov 11 2026. No macro, syntax, notation, axiom, sorry.
-/
import Derived.Test.YtallcholbbfkdaaDoorRows
import GoSem.ClaimSeven
namespace Go.Proofs.YtallcholbbfkdaaDoor
namespace Rows

/-- THE TIED CARD OF 'laws.FnExactSplitsOf'. -/
def fnExactSplitsOfCard : Claim7 := { stood := { row := fnExactSplitsOfRow, standIns := [], harness := (true, "ca964c31bf2f7e73c50556839b94780b107a53ba256c34e403ecfe551e69bd96"), looks := true }, kinds := [], alts := [], laidByText := true, laidKinds := [.handle, .sentinel], laidTests := true, laidLooks := .later }
def FnExactSplitsOfCardSaid : Prop := Claim7.holds Tryd.pinned (.plain (OpenSpec.ofChange fnExactSplitsOfSpec)) fnExactSplitsOfCard

/-- THE TIED CARD OF 'laws.FnSplits'. -/
def fnSplitsCard : Claim7 := { stood := { row := fnSplitsRow, standIns := [], harness := (true, "ca964c31bf2f7e73c50556839b94780b107a53ba256c34e403ecfe551e69bd96"), looks := true }, kinds := [], alts := [], laidByText := true, laidKinds := [.handle, .sentinel], laidTests := true, laidLooks := .later }
def FnSplitsCardSaid : Prop := Claim7.holds Tryd.pinned (.plain (OpenSpec.ofChange fnSplitsSpec)) fnSplitsCard

/-- THE TIED CARD OF 'laws.FnExactJobOk'. -/
def fnExactJobOkCard : Claim7 := { stood := { row := fnExactJobOkRow, standIns := [], harness := (true, "ca964c31bf2f7e73c50556839b94780b107a53ba256c34e403ecfe551e69bd96"), looks := true }, kinds := [], alts := [], laidByText := true, laidKinds := [.sentinel], laidTests := true, laidLooks := .later }
def FnExactJobOkCardSaid : Prop := Claim7.holds Tryd.pinned (.plain (OpenSpec.ofChange fnExactJobOkSpec)) fnExactJobOkCard

/-- THE TIED CARD OF 'laws.FnExactMapTask'. -/
def fnExactMapTaskCard : Claim7 := { stood := { row := fnExactMapTaskRow, standIns := [], harness := (true, "ca964c31bf2f7e73c50556839b94780b107a53ba256c34e403ecfe551e69bd96"), looks := true }, kinds := [], alts := [], laidByText := true, laidKinds := [.handle, .sentinel, .sentinel], laidTests := true, laidLooks := .later }
def FnExactMapTaskCardSaid : Prop := Claim7.holds Tryd.pinned (.plain (OpenSpec.ofChange fnExactMapTaskSpec)) fnExactMapTaskCard

/-- THE TIED CARD OF 'laws.FnMapOne'. -/
def fnMapOneCard : Claim7 := { stood := { row := fnMapOneRow, standIns := [], harness := (true, "ca964c31bf2f7e73c50556839b94780b107a53ba256c34e403ecfe551e69bd96"), looks := true }, kinds := [], alts := [], laidByText := true, laidKinds := [.handle, .sentinel, .sentinel], laidTests := true, laidLooks := .later }
def FnMapOneCardSaid : Prop := Claim7.holds Tryd.pinned (.plain (OpenSpec.ofChange fnMapOneSpec)) fnMapOneCard

/-- THE TIED CARD OF 'laws.FnJobMore'. -/
def fnJobMoreCard : Claim7 := { stood := { row := fnJobMoreRow, standIns := [], harness := (true, "ca964c31bf2f7e73c50556839b94780b107a53ba256c34e403ecfe551e69bd96"), looks := true }, kinds := [], alts := [], laidByText := true, laidKinds := [.handle, .sentinel], laidTests := true, laidLooks := .later }
def FnJobMoreCardSaid : Prop := Claim7.holds Tryd.pinned (.plain (OpenSpec.ofChange fnJobMoreSpec)) fnJobMoreCard

/-- THE SECOND FORM's CARD OF 'laws.FnExactSplitsOf'. -/
def fnExactSplitsOfUptoCard : Claim7 := { stood := { row := fnExactSplitsOfUptoRow, standIns := [], harness := (true, "ca964c31bf2f7e73c50556839b94780b107a53ba256c34e403ecfe551e69bd96"), looks := true }, kinds := [], alts := [], laidByText := true, laidKinds := [.handle, .sentinel], laidTests := true, laidLooks := .later }
def FnExactSplitsOfUptoCardSaid : Prop := Claim7.holds Tryd.pinned (.plain (OpenSpec.upto fnExactSplitsOfSpec)) fnExactSplitsOfUptoCard

/-- THE SECOND FORM's CARD OF 'laws.FnSplits'. -/
def fnSplitsUptoCard : Claim7 := { stood := { row := fnSplitsUptoRow, standIns := [], harness := (true, "ca964c31bf2f7e73c50556839b94780b107a53ba256c34e403ecfe551e69bd96"), looks := true }, kinds := [], alts := [], laidByText := true, laidKinds := [.handle, .sentinel], laidTests := true, laidLooks := .later }
def FnSplitsUptoCardSaid : Prop := Claim7.holds Tryd.pinned (.plain (OpenSpec.upto fnSplitsSpec)) fnSplitsUptoCard

/-- THE SECOND FORM's CARD OF 'laws.FnExactJobOk'. -/
def fnExactJobOkUptoCard : Claim7 := { stood := { row := fnExactJobOkUptoRow, standIns := [], harness := (true, "ca964c31bf2f7e73c50556839b94780b107a53ba256c34e403ecfe551e69bd96"), looks := true }, kinds := [], alts := [], laidByText := true, laidKinds := [.sentinel], laidTests := true, laidLooks := .later }
def FnExactJobOkUptoCardSaid : Prop := Claim7.holds Tryd.pinned (.plain (OpenSpec.upto fnExactJobOkSpec)) fnExactJobOkUptoCard

/-- THE SECOND FORM's CARD OF 'laws.FnExactMapTask'. -/
def fnExactMapTaskUptoCard : Claim7 := { stood := { row := fnExactMapTaskUptoRow, standIns := [], harness := (true, "ca964c31bf2f7e73c50556839b94780b107a53ba256c34e403ecfe551e69bd96"), looks := true }, kinds := [], alts := [], laidByText := true, laidKinds := [.handle, .sentinel, .sentinel], laidTests := true, laidLooks := .later }
def FnExactMapTaskUptoCardSaid : Prop := Claim7.holds Tryd.pinned (.plain (OpenSpec.upto fnExactMapTaskSpec)) fnExactMapTaskUptoCard

/-- THE SECOND FORM's CARD OF 'laws.FnMapOne'. -/
def fnMapOneUptoCard : Claim7 := { stood := { row := fnMapOneUptoRow, standIns := [], harness := (true, "ca964c31bf2f7e73c50556839b94780b107a53ba256c34e403ecfe551e69bd96"), looks := true }, kinds := [], alts := [], laidByText := true, laidKinds := [.handle, .sentinel, .sentinel], laidTests := true, laidLooks := .later }
def FnMapOneUptoCardSaid : Prop := Claim7.holds Tryd.pinned (.plain (OpenSpec.upto fnMapOneSpec)) fnMapOneUptoCard

/-- THE SECOND FORM's CARD OF 'laws.FnJobMore'. -/
def fnJobMoreUptoCard : Claim7 := { stood := { row := fnJobMoreUptoRow, standIns := [], harness := (true, "ca964c31bf2f7e73c50556839b94780b107a53ba256c34e403ecfe551e69bd96"), looks := true }, kinds := [], alts := [], laidByText := true, laidKinds := [.handle, .sentinel], laidTests := true, laidLooks := .later }
def FnJobMoreUptoCardSaid : Prop := Claim7.holds Tryd.pinned (.plain (OpenSpec.upto fnJobMoreSpec)) fnJobMoreUptoCard
end Rows
end Go.Proofs.YtallcholbbfkdaaDoor
