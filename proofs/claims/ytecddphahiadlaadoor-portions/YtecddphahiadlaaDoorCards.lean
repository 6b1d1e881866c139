/-
  DERIVED. GIVEN WITH THE SEED: THE CARDS: each row of YtecddphahiadlaaDoorRows.lean that lists a variable, with what it lists TIED to the program's text (the seventh form; the later family's looks); each row that meets fmt, with fmt's text TOLD by the authors' own Lean function (tested against real Go, not proved from fmt's source: count such statements apart). THE CARD IS WHAT COUNTS. Prove the row's statement (the work); the ties are given (YtecddphahiadlaaDoorTie.lean); close each card by the builder's one call (the guide's Derived/Test/ToyasCard.lean, 'card_holds'). Laid BY PROGRAM, IN A SANDBOX (cutbox-door.mjs). By AI agents, Wed Nov 11 2026. No macro, syntax, notation, axiom, sorry.
-/
import Derived.Test.YtecddphahiadlaaDoorRows
import GoSem.ClaimSeven
namespace Go.Proofs.YtecddphahiadlaaDoor
namespace Rows

/-- THE TIED CARD OF 'rilllaw.Inflates'. -/
def inflatesCard : Claim7 := { stood := { row := inflatesRow, standIns := [], harness := (true, "8f19063643387535f3f62d620bf01e7b72b6957bfdd3133b0368f7a11a737afe"), looks := true }, kinds := [], alts := [], laidByText := true, laidKinds := [.data], laidTests := true, laidLooks := .later }
def InflatesCardSaid : Prop := Claim7.holds Tryd.pinned (.plain (OpenSpec.ofChange inflatesSpec)) inflatesCard

/-- THE TIED CARD OF 'rillkeep.Stored'. -/
def storedCard : Claim7 := { stood := { row := storedRow, standIns := [], harness := (true, "8f19063643387535f3f62d620bf01e7b72b6957bfdd3133b0368f7a11a737afe"), looks := true }, kinds := [], alts := [], laidByText := true, laidKinds := [.data], laidTests := true, laidLooks := .later }
def StoredCardSaid : Prop := Claim7.holds Tryd.pinned (.plain (OpenSpec.ofChange storedSpec)) storedCard

/-- THE TIED CARD OF 'rillkeep.Back'. -/
def backCard : Claim7 := { stood := { row := backRow, standIns := [], harness := (true, "8f19063643387535f3f62d620bf01e7b72b6957bfdd3133b0368f7a11a737afe"), looks := true }, kinds := [], alts := [], laidByText := true, laidKinds := [.data], laidTests := true, laidLooks := .later }
def BackCardSaid : Prop := Claim7.holds Tryd.pinned (.plain (OpenSpec.ofChange backSpec)) backCard

/-- THE TIED CARD OF 'rillkeep.Portions'. -/
def portionsCard : Claim7 := { stood := { row := portionsRow, standIns := [], harness := (true, "8f19063643387535f3f62d620bf01e7b72b6957bfdd3133b0368f7a11a737afe"), looks := true }, kinds := [], alts := [], laidByText := true, laidKinds := [.sentinel, .data], laidTests := true, laidLooks := .later }
def PortionsCardSaid : Prop := Claim7.holds Tryd.pinned (.plain (OpenSpec.ofChange portionsSpec)) portionsCard

/-- THE SECOND FORM's CARD OF 'rilllaw.Inflates'. -/
def inflatesUptoCard : Claim7 := { stood := { row := inflatesUptoRow, standIns := [], harness := (true, "8f19063643387535f3f62d620bf01e7b72b6957bfdd3133b0368f7a11a737afe"), looks := true }, kinds := [], alts := [], laidByText := true, laidKinds := [.data], laidTests := true, laidLooks := .later }
def InflatesUptoCardSaid : Prop := Claim7.holds Tryd.pinned (.plain (OpenSpec.upto inflatesSpec)) inflatesUptoCard

/-- THE SECOND FORM's CARD OF 'rillkeep.Stored'. -/
def storedUptoCard : Claim7 := { stood := { row := storedUptoRow, standIns := [], harness := (true, "8f19063643387535f3f62d620bf01e7b72b6957bfdd3133b0368f7a11a737afe"), looks := true }, kinds := [], alts := [], laidByText := true, laidKinds := [.data], laidTests := true, laidLooks := .later }
def StoredUptoCardSaid : Prop := Claim7.holds Tryd.pinned (.plain (OpenSpec.upto storedSpec)) storedUptoCard

/-- THE SECOND FORM's CARD OF 'rillkeep.Back'. -/
def backUptoCard : Claim7 := { stood := { row := backUptoRow, standIns := [], harness := (true, "8f19063643387535f3f62d620bf01e7b72b6957bfdd3133b0368f7a11a737afe"), looks := true }, kinds := [], alts := [], laidByText := true, laidKinds := [.data], laidTests := true, laidLooks := .later }
def BackUptoCardSaid : Prop := Claim7.holds Tryd.pinned (.plain (OpenSpec.upto backSpec)) backUptoCard

/-- THE SECOND FORM's CARD OF 'rillkeep.Portions'. -/
def portionsUptoCard : Claim7 := { stood := { row := portionsUptoRow, standIns := [], harness := (true, "8f19063643387535f3f62d620bf01e7b72b6957bfdd3133b0368f7a11a737afe"), looks := true }, kinds := [], alts := [], laidByText := true, laidKinds := [.sentinel, .data], laidTests := true, laidLooks := .later }
def PortionsUptoCardSaid : Prop := Claim7.holds Tryd.pinned (.plain (OpenSpec.upto portionsSpec)) portionsUptoCard
end Rows
end Go.Proofs.YtecddphahiadlaaDoor
