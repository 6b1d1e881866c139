/- What the document's Inflate answers, plainly. -/
import Derived.Test.YtecddphahiadlaaGreatDoorCRunF
namespace Go.Proofs.YtecddphahiadlaaGreatDoor
open Go.RowKit

/-- What the document answers. -/
def infAns (s : ByteArray) : Value :=
  if (runF s).why = 0 then .tuple #[.string ⟨(runF s).text.toArray⟩, .int .i64 (((runF s).pos + 7) / 8 : Nat), .int .i64 0]
  else if (runF s).why = 2 then .tuple #[.string ⟨(runF s).text.toArray⟩, .int .i64 0, .int .i64 2]
  else .tuple #[.string .empty, .int .i64 0, .int .i64 ((runF s).why : Nat)]

def InfPost (w : World) (s : ByteArray) (e : Ending) (w' : World) : Prop := e = .returned (infAns s) ∧ Below w.heap.size w w'

end Go.Proofs.YtecddphahiadlaaGreatDoor
