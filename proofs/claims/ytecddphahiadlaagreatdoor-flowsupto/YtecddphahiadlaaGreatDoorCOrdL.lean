/- The table of the order, later on. -/
import Derived.Test.YtecddphahiadlaaGreatDoorCGFeed
namespace Go.Proofs.YtecddphahiadlaaGreatDoor
open Go.RowKit

theorem OrdIn.later {w w' : World} (h : OrdIn w 1) (hb : Below w.heap.size w w') (h0 : 1 < w.heap.size) : OrdIn w' 1 :=
  h.kp (Kp.below hb w.heap.size (.slice none 0 0)) (by omega) (by simp [Value.ownBlock])

end Go.Proofs.YtecddphahiadlaaGreatDoor
