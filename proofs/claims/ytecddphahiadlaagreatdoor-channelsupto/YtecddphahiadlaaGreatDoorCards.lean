/-
  DERIVED. GIVEN WITH THE SEED: THE CARDS: each row of YtecddphahiadlaaGreatDoorRows.lean that lists a variable, with what it lists TIED to the program's text (the seventh form; the later family's looks); each row that meets fmt, with fmt's text TOLD by the authors' own Lean function (tested against real Go, not proved from fmt's source: count such statements apart). THE CARD IS WHAT COUNTS. Prove the row's statement (the work); the ties are given (YtecddphahiadlaaGreatDoorTie.lean); close each card by the builder's one call (the guide's Derived/Test/ToyasCard.lean, 'card_holds'). Laid BY PROGRAM, IN A SANDBOX (cutbox-door.mjs). By AI agents, Wed Nov 11 2026. No macro, syntax, notation, axiom, sorry.
-/
import Derived.Test.YtecddphahiadlaaGreatDoorRows
import GoSem.ClaimSeven
namespace Go.Proofs.YtecddphahiadlaaGreatDoor
namespace Rows

/-- THE TIED CARD OF 'rilllaw.Channels'. -/
def channelsCard : Claim7 := { stood := { row := channelsRow, standIns := [], harness := (true, "c2d1ba83b660c113fe4e1749f0579605080b23f1c3a6474a22371f128cd12cb5"), looks := true }, kinds := [], alts := [], laidByText := true, laidKinds := [.sentinel, .data], laidTests := true, laidLooks := .later }
def ChannelsCardSaid : Prop := Claim7.holds Tryz.pinned (.plain (OpenSpec.ofChange channelsSpec)) channelsCard

/-- THE TIED CARD OF 'rillkeep.Flows'. -/
def flowsCard : Claim7 := { stood := { row := flowsRow, standIns := [], harness := (true, "c2d1ba83b660c113fe4e1749f0579605080b23f1c3a6474a22371f128cd12cb5"), looks := true }, kinds := [], alts := [], laidByText := true, laidKinds := [.sentinel, .data], laidTests := true, laidLooks := .later }
def FlowsCardSaid : Prop := Claim7.holds Tryz.pinned (.plain (OpenSpec.ofChange flowsSpec)) flowsCard

/-- THE TIED CARD OF 'rillkeep.Waits'. -/
def waitsCard : Claim7 := { stood := { row := waitsRow, standIns := [], harness := (true, "c2d1ba83b660c113fe4e1749f0579605080b23f1c3a6474a22371f128cd12cb5"), looks := true }, kinds := [], alts := [], laidByText := true, laidKinds := [.sentinel, .data], laidTests := true, laidLooks := .later }
def WaitsCardSaid : Prop := Claim7.holds Tryz.pinned (.plain (OpenSpec.ofChange waitsSpec)) waitsCard

/-- THE SECOND FORM's CARD OF 'rilllaw.Channels'. -/
def channelsUptoCard : Claim7 := { stood := { row := channelsUptoRow, standIns := [], harness := (true, "c2d1ba83b660c113fe4e1749f0579605080b23f1c3a6474a22371f128cd12cb5"), looks := true }, kinds := [], alts := [], laidByText := true, laidKinds := [.sentinel, .data], laidTests := true, laidLooks := .later }
def ChannelsUptoCardSaid : Prop := Claim7.holds Tryz.pinned (.plain (OpenSpec.upto channelsSpec)) channelsUptoCard

/-- THE SECOND FORM's CARD OF 'rillkeep.Flows'. -/
def flowsUptoCard : Claim7 := { stood := { row := flowsUptoRow, standIns := [], harness := (true, "c2d1ba83b660c113fe4e1749f0579605080b23f1c3a6474a22371f128cd12cb5"), looks := true }, kinds := [], alts := [], laidByText := true, laidKinds := [.sentinel, .data], laidTests := true, laidLooks := .later }
def FlowsUptoCardSaid : Prop := Claim7.holds Tryz.pinned (.plain (OpenSpec.upto flowsSpec)) flowsUptoCard

/-- THE SECOND FORM's CARD OF 'rillkeep.Waits'. -/
def waitsUptoCard : Claim7 := { stood := { row := waitsUptoRow, standIns := [], harness := (true, "c2d1ba83b660c113fe4e1749f0579605080b23f1c3a6474a22371f128cd12cb5"), looks := true }, kinds := [], alts := [], laidByText := true, laidKinds := [.sentinel, .data], laidTests := true, laidLooks := .later }
def WaitsUptoCardSaid : Prop := Claim7.holds Tryz.pinned (.plain (OpenSpec.upto waitsSpec)) waitsUptoCard
end Rows
end Go.Proofs.YtecddphahiadlaaGreatDoor
