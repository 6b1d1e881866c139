/- A slice of ints that the call itself made. -/
import Derived.Test.YtecddphahiadlaaGreatDoorCKraft
import Derived.Test.YtecddphahiadlaaGreatDoorCApp
import Derived.Laws.OwnMore
namespace Go.Proofs.YtecddphahiadlaaGreatDoor
open Go.RowKit

def intsOf (z : Nat → Int) (n : Nat) : List Value := (List.range n).map fun i => Value.int .i64 (z i)

theorem intsOf_at (z : Nat → Int) {n i : Nat} (h : i < n) : (intsOf z n)[i]? = some (.int .i64 (z i)) := by
  simp [intsOf, h]
theorem intsOf_length (z : Nat → Int) (n : Nat) : (intsOf z n).length = n := by simp [intsOf]
theorem intsOf_succ (z : Nat → Int) (n : Nat) : intsOf z (n + 1) = intsOf z n ++ [.int .i64 (z n)] := by
  simp [intsOf, List.range_succ]
theorem intsOf_congr {z y : Nat → Int} (n : Nat) (h : ∀ i, i < n → z i = y i) : intsOf z n = intsOf y n := by
  apply List.map_congr_left
  intro i hi
  rw [h i (List.mem_range.1 hi)]
theorem intsOf_set (z : Nat → Int) (n k : Nat) (v : Int) : (intsOf z n).set k (.int .i64 v) = intsOf (fun i => if i = k then v else z i) n := by
  apply List.ext_getElem?
  intro j
  rw [List.getElem?_set]
  by_cases hj : j < n
  · rw [intsOf_at (fun i => if i = k then v else z i) hj]
    by_cases e : k = j
    · subst e
      simp [intsOf_length, hj]
    · rw [if_neg e, intsOf_at _ hj, if_neg (fun h => e h.symm)]
  · rw [List.getElem?_eq_none (by rw [intsOf_length]; omega : (intsOf (fun i => if i = k then v else z i) n).length ≤ j)]
    by_cases e : k = j
    · subst e
      rw [if_pos rfl, intsOf_length, if_neg hj]
    · rw [if_neg e, List.getElem?_eq_none (by rw [intsOf_length]; omega)]

/-- A row of n numbers in a block of the call's own. -/
structure OwnI (w : World) (B g cap n : Nat) (z : Nat → Int) : Prop where
  own : w.ownsRow B 3 1 (.slice (some ⟨g, 0, none⟩) n cap) n (intsOf z n)

namespace OwnI
variable {w w' : World} {B g cap n : Nat} {z y : Nat → Int}

theorem cell (h : OwnI w B g cap n z) {i : Nat} (hi : i < n) : w.cell? ⟨g, i, none⟩ = some (.int .i64 (z i)) := by
  rw [h.own.cellAt i (by omega), intsOf_at z hi]
theorem frozen (h : OwnI w B g cap n z) (i : Nat) : w.frozen? ⟨g, i, none⟩ = false := h.own.frozenAt i
theorem lt (h : OwnI w B g cap n z) : B ≤ g ∧ g < w.heap.size := h.own.lt g rfl
theorem congr (h : OwnI w B g cap n z) (e : ∀ i, i < n → z i = y i) : OwnI w B g cap n y := ⟨by rw [← intsOf_congr n e]; exact h.own⟩
theorem store (h : OwnI w B g cap n z) (k : Nat) (v : Int) : OwnI (w.setCell ⟨g, k, none⟩ (.int .i64 v)) B g cap n (fun i => if i = k then v else z i) :=
  ⟨by rw [← intsOf_set]; exact (h.own.stored k _).1⟩
theorem of_block (h : OwnI w B g cap n z) (e : w'.heap[g]? = w.heap[g]?) : OwnI w' B g cap n z := by
  obtain ⟨h1, h2⟩ := h.own
  refine ⟨h1, ?_⟩
  rcases h2 with ⟨h2, _⟩ | ⟨g', cap', cur, hv, hb, hh, r⟩
  · exact absurd h2 (by simp)
  · have e1 : g = g' ∧ cap = cap' := by simpa using hv
    obtain ⟨rfl, rfl⟩ := e1
    exact Or.inr ⟨g, cap, cur, rfl, hb, e.trans hh, r⟩
theorem drew (h : OwnI w B g cap n z) : OwnI w.drew B g cap n z := ⟨h.own⟩
theorem alloc (h : OwnI w B g cap n z) (o : Obj) : OwnI (w.alloc o) B g cap n z := ⟨h.own.alloc o⟩
theorem later (h : OwnI w B g cap n z) (hb : Below w.heap.size w w') : OwnI w' B g cap n z := h.of_block (hb.block g h.lt.2)

/-- What append makes of it. -/
theorem of_append {v' : Value} {x : Int} (h : w'.ownsRow B 3 1 v' (n + 1) (intsOf z n ++ [.int .i64 x])) : ∃ g' cap', v' = .slice (some ⟨g', 0, none⟩) (n + 1) cap' ∧ OwnI w' B g' cap' (n + 1) (fun i => if i = n then x else z i) := by
  have e : intsOf z n ++ [.int .i64 x] = intsOf (fun i => if i = n then x else z i) (n + 1) := by
    rw [intsOf_succ, if_pos rfl, intsOf_congr (z := fun i => if i = n then x else z i) (y := z) n (fun i hi => by rw [if_neg (by omega)])]
  rw [e] at h
  obtain ⟨h1, h2⟩ := h
  rcases h2 with ⟨_, h2⟩ | ⟨g', cap', cur, hv, r⟩
  · omega
  · subst hv
    exact ⟨g', cap', rfl, ⟨h1, Or.inr ⟨g', cap', cur, rfl, r⟩⟩⟩

theorem leCap (h : OwnI w B g cap n z) : n ≤ cap := by
  obtain ⟨h1, h2⟩ := h.own
  rcases h2 with ⟨h2, _⟩ | ⟨g', cap', cur, hv, hb, hh, hc, _⟩
  · exact absurd h2 (by simp)
  · have e1 : g = g' ∧ cap = cap' := by simpa using hv
    omega

theorem ints (h : OwnI w B g cap n z) : IntsAt w g 0 n z := ⟨fun i hi => by rw [Nat.zero_add]; exact h.cell hi, h.lt.2⟩
theorem tail (h : OwnI w B g cap (n + 1) z) : IntsAt w g 1 n (fun i => z (i + 1)) := ⟨fun i hi => by rw [Nat.add_comm]; exact h.cell (by omega), h.lt.2⟩

end OwnI

theorem own_two (w : World) : OwnI (w.alloc (.cells #[.int .i64 1, .int .i64 1] 3)) w.heap.size w.heap.size 2 2 (fun _ => 1) :=
  ⟨World.ownsRow_lit (base := w.heap.size) w #[.int .i64 1, .int .i64 1] 2 (Nat.le_refl _) (by decide) rfl⟩


end Go.Proofs.YtecddphahiadlaaGreatDoor
