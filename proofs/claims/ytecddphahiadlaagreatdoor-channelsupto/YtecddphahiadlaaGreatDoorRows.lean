/-
  NARROWER THAN 'FOR EVERY INPUT', by the rows' own cells (each row's printed sentence says how): Channels: laid · Flows: laid · Waits: laid.
  DERIVED. THE GIVEN ROWS OF THIS SEAT. 3 by the template 'for every input the law returns true; each argument reads behind the call as it read before'; 0 by the template 'total and deterministic' (their statements: YtecddphahiadlaaGreatDoorTotals.lean).
  GIVEN WITH THE SEED: the statements are not yours to turn. If you find one false, say at which input.
  Laid BY PROGRAM, IN A SANDBOX (cutbox-rows.mjs): the forced cells as the released guide's own fill.sh prints them over the translation 18cc2667a617b328… (all of the seat's roots in one cut). By AI agents, Wed Nov 11 2026. No macro, syntax, notation, axiom, sorry.
-/
import Derived.Test.YtecddphahiadlaaGreatDoorChecked
import GoSem.Claim
import GoSem.ClaimJoined
import GoSem.ClaimMapViews
import Derived.JoinedTies
import Derived.KernelRfl
namespace Go.Proofs.YtecddphahiadlaaGreatDoor
/- THE CELL 'sum', in the pinned program and in every row, IS THE sha256 OF THE DUMP (.gsa) THAT YtecddphahiadlaaGreatDoorProg.lean LOADS. Nothing in Lean hashes anything: it is a label: what it is worth is what the hold of that sum in a sandbox is worth. -/
noncomputable def Tryz.pinned : Pinned := { name := "ytecddphahiadlaagreatdoor", sum := "18cc2667a617b328f095bb463fd26891c84f084c01ff0405d1d994a1fbbda04b", checked := Tryz.checked }
namespace Rows
def none {H : Type} : Left H := { results := [], args := [] }

/- WHAT THE LISTED PACKAGE-LEVEL VARIABLES READ AS WHEN THE CALL BEGINS. Each datum BY PROGRAM (the guide's laid-datum.mjs) off the statement by which the dump's own 'gosem.cut.vars' lays the variable. In a bare row this is a premise. The card (YtecddphahiadlaaGreatDoorCards.lean) ties it to the program's text. -/
def laid_bytes_ErrTooLarge {H : Type} : DataW H := .iface "*errors.errorString" (.ptr (.agg [.lit (.string [98, 121, 116, 101, 115, 46, 66, 117, 102, 102, 101, 114, 58, 32, 116, 111, 111, 32, 108, 97, 114, 103, 101])]))
def laid_rill_stream_order {H : Type} : DataW H := .agg [.lit (.int .i64 16), .lit (.int .i64 17), .lit (.int .i64 18), .lit (.int .i64 0), .lit (.int .i64 8), .lit (.int .i64 7), .lit (.int .i64 9), .lit (.int .i64 6), .lit (.int .i64 10), .lit (.int .i64 5), .lit (.int .i64 11), .lit (.int .i64 4), .lit (.int .i64 12), .lit (.int .i64 3), .lit (.int .i64 13), .lit (.int .i64 2), .lit (.int .i64 14), .lit (.int .i64 1), .lit (.int .i64 15)]

/-- 'rilllaw.Channels': WHATEVER THE INPUT: true; the input reads as it did. -/
def channelsSpec : ChangeSpec := { name := "channels", fn := fun _ => fun
  | [d1, d2] => { results := [.lit (.bool true)], args := [d1, d2] }
  | _ => none }
def channelsRow : OpenClaim := { program := "ytecddphahiadlaagreatdoor", sum := "18cc2667a617b328f095bb463fd26891c84f084c01ff0405d1d994a1fbbda04b", func := "rill/rilllaw.Channels", spec := "channels", unfollowed := true, recurses := true, named := ["bytes.ErrTooLarge", "rill/stream.order"], apart := false, laid := [("bytes.ErrTooLarge", laid_bytes_ErrTooLarge), ("rill/stream.order", laid_rill_stream_order)] }
def ChannelsSaid : Prop := channelsRow.holds Tryz.pinned (OpenSpec.ofChange channelsSpec)

/-- ITS FALSE NEIGHBOUR: 'it returns false'. Refute it at one input. -/
def channelsWrong : ChangeSpec := { name := "channels", fn := fun _ => fun
  | [d1, d2] => { results := [.lit (.bool false)], args := [d1, d2] }
  | _ => none }
def ChannelsWrongFalsely : Prop := channelsRow.holds Tryz.pinned (OpenSpec.ofChange channelsWrong)

/-- 'rillkeep.Flows': WHATEVER THE INPUT: true; the input reads as it did. -/
def flowsSpec : ChangeSpec := { name := "flows", fn := fun _ => fun
  | [d1, d2] => { results := [.lit (.bool true)], args := [d1, d2] }
  | _ => none }
def flowsRow : OpenClaim := { program := "ytecddphahiadlaagreatdoor", sum := "18cc2667a617b328f095bb463fd26891c84f084c01ff0405d1d994a1fbbda04b", func := "rill/rillkeep.Flows", spec := "flows", unfollowed := true, recurses := true, named := ["bytes.ErrTooLarge", "rill/stream.order"], apart := false, laid := [("bytes.ErrTooLarge", laid_bytes_ErrTooLarge), ("rill/stream.order", laid_rill_stream_order)] }
def FlowsSaid : Prop := flowsRow.holds Tryz.pinned (OpenSpec.ofChange flowsSpec)

/-- ITS FALSE NEIGHBOUR: 'it returns false'. Refute it at one input. -/
def flowsWrong : ChangeSpec := { name := "flows", fn := fun _ => fun
  | [d1, d2] => { results := [.lit (.bool false)], args := [d1, d2] }
  | _ => none }
def FlowsWrongFalsely : Prop := flowsRow.holds Tryz.pinned (OpenSpec.ofChange flowsWrong)

/-- 'rillkeep.Waits': WHATEVER THE INPUT: true; the input reads as it did. -/
def waitsSpec : ChangeSpec := { name := "waits", fn := fun _ => fun
  | [d1, d2, d3, d4] => { results := [.lit (.bool true)], args := [d1, d2, d3, d4] }
  | _ => none }
def waitsRow : OpenClaim := { program := "ytecddphahiadlaagreatdoor", sum := "18cc2667a617b328f095bb463fd26891c84f084c01ff0405d1d994a1fbbda04b", func := "rill/rillkeep.Waits", spec := "waits", unfollowed := true, recurses := true, named := ["bytes.ErrTooLarge", "rill/stream.order"], apart := false, laid := [("bytes.ErrTooLarge", laid_bytes_ErrTooLarge), ("rill/stream.order", laid_rill_stream_order)] }
def WaitsSaid : Prop := waitsRow.holds Tryz.pinned (OpenSpec.ofChange waitsSpec)

/-- ITS FALSE NEIGHBOUR: 'it returns false'. Refute it at one input. -/
def waitsWrong : ChangeSpec := { name := "waits", fn := fun _ => fun
  | [d1, d2, d3, d4] => { results := [.lit (.bool false)], args := [d1, d2, d3, d4] }
  | _ => none }
def WaitsWrongFalsely : Prop := waitsRow.holds Tryz.pinned (OpenSpec.ofChange waitsWrong)

/- THE SECOND FORM. 'bulk': how many values and letters a reading holds, each counted each time it is reached (what is shared counts as often as it is met; a slice's spare places count too). A statement '..UptoSaid' is the law's where the arguments, and the package variables that the reading takes, are together of bulk at most 1048576: NARROWER than '..Said'. Prove '..Said' where nothing that the law and all that it calls make is longer than what came in: it says more and counts as full. Else prove '..UptoSaid'. A law counts once. -/
mutual
def uptoBulk {H : Type} : DataW H → Nat
  | .lit (.string bytes) => bytes.length + 1
  | .lit _ => 1
  | .nil => 1
  | .ptr d => uptoBulk d + 1
  | .slice elems spare => uptoBulkAll elems + uptoBulkAll spare + 1
  | .agg parts => uptoBulkAll parts + 1
  | .iface _ d => uptoBulk d + 1
  | .map entries => uptoBulkEntries entries + 1
  | .held _ => 1
def uptoBulkAll {H : Type} : List (DataW H) → Nat
  | [] => 0
  | d :: r => uptoBulk d + uptoBulkAll r
def uptoBulkEntries {H : Type} : List (Lit × DataW H) → Nat
  | [] => 0
  | x :: r => uptoBulkEntry x + uptoBulkEntries r
def uptoBulkEntry {H : Type} : Lit × DataW H → Nat
  | (.string bytes, d) => bytes.length + uptoBulk d + 1
  | (_, d) => uptoBulk d + 1
 end
def uptoSmall : (H : Type) → List (DataW H) → Bool := fun _ ds => decide (uptoBulkAll ds ≤ 1048576)
def OpenSpec.upto (s : _root_.Go.ChangeSpec) : _root_.Go.OpenSpec := { _root_.Go.OpenSpec.ofChange s with cond := some uptoSmall }

/-- 'rilllaw.Channels', WHERE WHAT IT READS IS OF BULK AT MOST 1048576: true; the input reads as it did. -/
def channelsUptoRow : OpenClaim := { program := "ytecddphahiadlaagreatdoor", sum := "18cc2667a617b328f095bb463fd26891c84f084c01ff0405d1d994a1fbbda04b", func := "rill/rilllaw.Channels", spec := "channels", unfollowed := true, recurses := true, named := ["bytes.ErrTooLarge", "rill/stream.order"], apart := false, laid := [("bytes.ErrTooLarge", laid_bytes_ErrTooLarge), ("rill/stream.order", laid_rill_stream_order)], narrowed := true }
def ChannelsUptoSaid : Prop := channelsUptoRow.holds Tryz.pinned (OpenSpec.upto channelsSpec)

/-- 'rillkeep.Flows', WHERE WHAT IT READS IS OF BULK AT MOST 1048576: true; the input reads as it did. -/
def flowsUptoRow : OpenClaim := { program := "ytecddphahiadlaagreatdoor", sum := "18cc2667a617b328f095bb463fd26891c84f084c01ff0405d1d994a1fbbda04b", func := "rill/rillkeep.Flows", spec := "flows", unfollowed := true, recurses := true, named := ["bytes.ErrTooLarge", "rill/stream.order"], apart := false, laid := [("bytes.ErrTooLarge", laid_bytes_ErrTooLarge), ("rill/stream.order", laid_rill_stream_order)], narrowed := true }
def FlowsUptoSaid : Prop := flowsUptoRow.holds Tryz.pinned (OpenSpec.upto flowsSpec)

/-- 'rillkeep.Waits', WHERE WHAT IT READS IS OF BULK AT MOST 1048576: true; the input reads as it did. -/
def waitsUptoRow : OpenClaim := { program := "ytecddphahiadlaagreatdoor", sum := "18cc2667a617b328f095bb463fd26891c84f084c01ff0405d1d994a1fbbda04b", func := "rill/rillkeep.Waits", spec := "waits", unfollowed := true, recurses := true, named := ["bytes.ErrTooLarge", "rill/stream.order"], apart := false, laid := [("bytes.ErrTooLarge", laid_bytes_ErrTooLarge), ("rill/stream.order", laid_rill_stream_order)], narrowed := true }
def WaitsUptoSaid : Prop := waitsUptoRow.holds Tryz.pinned (OpenSpec.upto waitsSpec)

end Rows
end Go.Proofs.YtecddphahiadlaaGreatDoor
