/-
  NARROWER THAN 'FOR EVERY INPUT', by the rows' own cells (each row's printed sentence says how): Inflates: laid · Stored: laid · Back: laid · Portions: laid.
  DERIVED. THE GIVEN ROWS OF THIS SEAT. 4 by the template 'for every input the law returns true; each argument reads behind the call as it read before'; 0 by the template 'total and deterministic' (their statements: YtecddphahiadlaaDoorTotals.lean).
  GIVEN WITH THE SEED: the statements are not yours to turn. If you find one false, say at which input.
  Laid BY PROGRAM, IN A SANDBOX (cutbox-rows.mjs): the forced cells as the released guide's own fill.sh prints them over the translation 36661cd691a91db3… (all of the seat's roots in one cut). By AI agents, Wed Nov 11 2026. No macro, syntax, notation, axiom, sorry.
-/
import Derived.Test.YtecddphahiadlaaDoorChecked
import GoSem.Claim
import GoSem.ClaimJoined
import GoSem.ClaimMapViews
import Derived.JoinedTies
import Derived.KernelRfl
namespace Go.Proofs.YtecddphahiadlaaDoor
/- THE CELL 'sum', in the pinned program and in every row, IS THE sha256 OF THE DUMP (.gsa) THAT YtecddphahiadlaaDoorProg.lean LOADS. Nothing in Lean hashes anything: it is a label: what it is worth is what the hold of that sum in a sandbox is worth. -/
noncomputable def Tryd.pinned : Pinned := { name := "ytecddphahiadlaadoor", sum := "36661cd691a91db3a07f2e3632680f42e9f2e750a0e61486f64a01755424d76b", checked := Tryd.checked }
namespace Rows
def none {H : Type} : Left H := { results := [], args := [] }

/- WHAT THE LISTED PACKAGE-LEVEL VARIABLES READ AS WHEN THE CALL BEGINS. Each datum BY PROGRAM (the guide's laid-datum.mjs) off the statement by which the dump's own 'gosem.cut.vars' lays the variable. In a bare row this is a premise. The card (YtecddphahiadlaaDoorCards.lean) ties it to the program's text. -/
def laid_rill_stream_order {H : Type} : DataW H := .agg [.lit (.int .i64 16), .lit (.int .i64 17), .lit (.int .i64 18), .lit (.int .i64 0), .lit (.int .i64 8), .lit (.int .i64 7), .lit (.int .i64 9), .lit (.int .i64 6), .lit (.int .i64 10), .lit (.int .i64 5), .lit (.int .i64 11), .lit (.int .i64 4), .lit (.int .i64 12), .lit (.int .i64 3), .lit (.int .i64 13), .lit (.int .i64 2), .lit (.int .i64 14), .lit (.int .i64 1), .lit (.int .i64 15)]
def laid_bytes_ErrTooLarge {H : Type} : DataW H := .iface "*errors.errorString" (.ptr (.agg [.lit (.string [98, 121, 116, 101, 115, 46, 66, 117, 102, 102, 101, 114, 58, 32, 116, 111, 111, 32, 108, 97, 114, 103, 101])]))

/-- 'rilllaw.Inflates': WHATEVER THE INPUT: true; the input reads as it did. -/
def inflatesSpec : ChangeSpec := { name := "inflates", fn := fun _ => fun
  | [d] => { results := [.lit (.bool true)], args := [d] }
  | _ => none }
def inflatesRow : OpenClaim := { program := "ytecddphahiadlaadoor", sum := "36661cd691a91db3a07f2e3632680f42e9f2e750a0e61486f64a01755424d76b", func := "rill/rilllaw.Inflates", spec := "inflates", unfollowed := true, recurses := true, named := ["rill/stream.order"], apart := false, laid := [("rill/stream.order", laid_rill_stream_order)] }
def InflatesSaid : Prop := inflatesRow.holds Tryd.pinned (OpenSpec.ofChange inflatesSpec)

/-- ITS FALSE NEIGHBOUR: 'it returns false'. Refute it at one input. -/
def inflatesWrong : ChangeSpec := { name := "inflates", fn := fun _ => fun
  | [d] => { results := [.lit (.bool false)], args := [d] }
  | _ => none }
def InflatesWrongFalsely : Prop := inflatesRow.holds Tryd.pinned (OpenSpec.ofChange inflatesWrong)

/-- 'rillkeep.Stored': WHATEVER THE INPUT: true; the input reads as it did. -/
def storedSpec : ChangeSpec := { name := "stored", fn := fun _ => fun
  | [d1, d2, d3] => { results := [.lit (.bool true)], args := [d1, d2, d3] }
  | _ => none }
def storedRow : OpenClaim := { program := "ytecddphahiadlaadoor", sum := "36661cd691a91db3a07f2e3632680f42e9f2e750a0e61486f64a01755424d76b", func := "rill/rillkeep.Stored", spec := "stored", unfollowed := true, recurses := true, named := ["rill/stream.order"], apart := false, laid := [("rill/stream.order", laid_rill_stream_order)] }
def StoredSaid : Prop := storedRow.holds Tryd.pinned (OpenSpec.ofChange storedSpec)

/-- ITS FALSE NEIGHBOUR: 'it returns false'. Refute it at one input. -/
def storedWrong : ChangeSpec := { name := "stored", fn := fun _ => fun
  | [d1, d2, d3] => { results := [.lit (.bool false)], args := [d1, d2, d3] }
  | _ => none }
def StoredWrongFalsely : Prop := storedRow.holds Tryd.pinned (OpenSpec.ofChange storedWrong)

/-- 'rillkeep.Back': WHATEVER THE INPUT: true; the input reads as it did. -/
def backSpec : ChangeSpec := { name := "back", fn := fun _ => fun
  | [d1, d2, d3] => { results := [.lit (.bool true)], args := [d1, d2, d3] }
  | _ => none }
def backRow : OpenClaim := { program := "ytecddphahiadlaadoor", sum := "36661cd691a91db3a07f2e3632680f42e9f2e750a0e61486f64a01755424d76b", func := "rill/rillkeep.Back", spec := "back", unfollowed := true, recurses := true, named := ["rill/stream.order"], apart := false, laid := [("rill/stream.order", laid_rill_stream_order)] }
def BackSaid : Prop := backRow.holds Tryd.pinned (OpenSpec.ofChange backSpec)

/-- ITS FALSE NEIGHBOUR: 'it returns false'. Refute it at one input. -/
def backWrong : ChangeSpec := { name := "back", fn := fun _ => fun
  | [d1, d2, d3] => { results := [.lit (.bool false)], args := [d1, d2, d3] }
  | _ => none }
def BackWrongFalsely : Prop := backRow.holds Tryd.pinned (OpenSpec.ofChange backWrong)

/-- 'rillkeep.Portions': WHATEVER THE INPUT: true; the input reads as it did. -/
def portionsSpec : ChangeSpec := { name := "portions", fn := fun _ => fun
  | [d1, d2, d3] => { results := [.lit (.bool true)], args := [d1, d2, d3] }
  | _ => none }
def portionsRow : OpenClaim := { program := "ytecddphahiadlaadoor", sum := "36661cd691a91db3a07f2e3632680f42e9f2e750a0e61486f64a01755424d76b", func := "rill/rillkeep.Portions", spec := "portions", unfollowed := true, recurses := true, named := ["bytes.ErrTooLarge", "rill/stream.order"], apart := false, laid := [("bytes.ErrTooLarge", laid_bytes_ErrTooLarge), ("rill/stream.order", laid_rill_stream_order)] }
def PortionsSaid : Prop := portionsRow.holds Tryd.pinned (OpenSpec.ofChange portionsSpec)

/-- ITS FALSE NEIGHBOUR: 'it returns false'. Refute it at one input. -/
def portionsWrong : ChangeSpec := { name := "portions", fn := fun _ => fun
  | [d1, d2, d3] => { results := [.lit (.bool false)], args := [d1, d2, d3] }
  | _ => none }
def PortionsWrongFalsely : Prop := portionsRow.holds Tryd.pinned (OpenSpec.ofChange portionsWrong)

/- THE SECOND FORM. 'bulk': how many values and letters a reading holds, each counted each time it is reached (what is shared counts as often as it is met; a slice's spare places count too). A statement '..UptoSaid' is the law's where the arguments, and the package variables that the reading takes, are together of bulk at most 1048576: NARROWER than '..Said'. Prove '..Said' where nothing that the law and all that it calls make is longer than what came in: it says more and counts as full. Else prove '..UptoSaid'. A law counts once. -/
mutual
def uptoBulk {H : Type} : DataW H → Nat
  | .lit (.string bytes) => bytes.length + 1
  | .lit _ => 1
  | .nil => 1
  | .ptr d => uptoBulk d + 1
  | .slice elems spare => uptoBulkAll elems + uptoBulkAll spare + 1
  | .agg parts => uptoBulkAll parts + 1
  | .iface _ d => uptoBulk d + 1
  | .map entries => uptoBulkEntries entries + 1
  | .held _ => 1
def uptoBulkAll {H : Type} : List (DataW H) → Nat
  | [] => 0
  | d :: r => uptoBulk d + uptoBulkAll r
def uptoBulkEntries {H : Type} : List (Lit × DataW H) → Nat
  | [] => 0
  | x :: r => uptoBulkEntry x + uptoBulkEntries r
def uptoBulkEntry {H : Type} : Lit × DataW H → Nat
  | (.string bytes, d) => bytes.length + uptoBulk d + 1
  | (_, d) => uptoBulk d + 1
 end
def uptoSmall : (H : Type) → List (DataW H) → Bool := fun _ ds => decide (uptoBulkAll ds ≤ 1048576)
def OpenSpec.upto (s : _root_.Go.ChangeSpec) : _root_.Go.OpenSpec := { _root_.Go.OpenSpec.ofChange s with cond := some uptoSmall }

/-- 'rilllaw.Inflates', WHERE WHAT IT READS IS OF BULK AT MOST 1048576: true; the input reads as it did. -/
def inflatesUptoRow : OpenClaim := { program := "ytecddphahiadlaadoor", sum := "36661cd691a91db3a07f2e3632680f42e9f2e750a0e61486f64a01755424d76b", func := "rill/rilllaw.Inflates", spec := "inflates", unfollowed := true, recurses := true, named := ["rill/stream.order"], apart := false, laid := [("rill/stream.order", laid_rill_stream_order)], narrowed := true }
def InflatesUptoSaid : Prop := inflatesUptoRow.holds Tryd.pinned (OpenSpec.upto inflatesSpec)

/-- 'rillkeep.Stored', WHERE WHAT IT READS IS OF BULK AT MOST 1048576: true; the input reads as it did. -/
def storedUptoRow : OpenClaim := { program := "ytecddphahiadlaadoor", sum := "36661cd691a91db3a07f2e3632680f42e9f2e750a0e61486f64a01755424d76b", func := "rill/rillkeep.Stored", spec := "stored", unfollowed := true, recurses := true, named := ["rill/stream.order"], apart := false, laid := [("rill/stream.order", laid_rill_stream_order)], narrowed := true }
def StoredUptoSaid : Prop := storedUptoRow.holds Tryd.pinned (OpenSpec.upto storedSpec)

/-- 'rillkeep.Back', WHERE WHAT IT READS IS OF BULK AT MOST 1048576: true; the input reads as it did. -/
def backUptoRow : OpenClaim := { program := "ytecddphahiadlaadoor", sum := "36661cd691a91db3a07f2e3632680f42e9f2e750a0e61486f64a01755424d76b", func := "rill/rillkeep.Back", spec := "back", unfollowed := true, recurses := true, named := ["rill/stream.order"], apart := false, laid := [("rill/stream.order", laid_rill_stream_order)], narrowed := true }
def BackUptoSaid : Prop := backUptoRow.holds Tryd.pinned (OpenSpec.upto backSpec)

/-- 'rillkeep.Portions', WHERE WHAT IT READS IS OF BULK AT MOST 1048576: true; the input reads as it did. -/
def portionsUptoRow : OpenClaim := { program := "ytecddphahiadlaadoor", sum := "36661cd691a91db3a07f2e3632680f42e9f2e750a0e61486f64a01755424d76b", func := "rill/rillkeep.Portions", spec := "portions", unfollowed := true, recurses := true, named := ["bytes.ErrTooLarge", "rill/stream.order"], apart := false, laid := [("bytes.ErrTooLarge", laid_bytes_ErrTooLarge), ("rill/stream.order", laid_rill_stream_order)], narrowed := true }
def PortionsUptoSaid : Prop := portionsUptoRow.holds Tryd.pinned (OpenSpec.upto portionsSpec)

end Rows
end Go.Proofs.YtecddphahiadlaaDoor
