/- The contract of Codes. -/
import Derived.Test.YtecddphahiadlaaTexts
namespace Go.Proofs.Ytecddphahiadlaa
open Go.RowKit

/-- What Codes answers. -/
def CodesPost (w : World) (z : Nat → Int) (n : Nat) (e : Ending) (w' : World) : Prop :=
  (fitB z n = false ∧ e = .returned (.tuple #[.slice none 0 0, .int .i64 1]) ∧ Below w.heap.size w w') ∨
  (fitB z n = true ∧ ∃ g, e = .returned (.tuple #[.slice (some ⟨g, 0, none⟩) n n, .int .i64 0]) ∧ w.heap.size ≤ g ∧ w'.rowIs g 9 n (fun i => .string (codeT z n i)) ∧ Below w.heap.size w w')

set_option maxHeartbeats 400000 in
theorem codes_any (b off n cap : Nat) (z : Nat → Int) (w : World) (hz : IntsAt w b off n z) (hn : n ≤ 9223372036854775807) :
    Calls Try.prog 9 #[.slice (some ⟨b, off, none⟩) n cap] w (CodesPost w z n) := by
  go_enter Try.func9, Try.ntmps9
  go_wp2_with fail
  refine (texts_any b off n cap z _ hz hn).mono ?_
  rintro e w1 (⟨hf, rfl, hb⟩ | ⟨hf, g, rfl, hg, hrow, hb⟩)
  · go_wp2
    go_ret2
    exact Or.inl ⟨hf, rfl, hb⟩
  · go_wp2
    go_ret2
    exact Or.inr ⟨hf, g, rfl, hg, hrow, hb⟩

end Go.Proofs.Ytecddphahiadlaa
