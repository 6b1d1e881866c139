/- Rows of sixteen numbers. -/
import Derived.Test.YtecddphahiadlaaPure
import Derived.Deep.OwnRows
import Derived.Laws.Rows
import Derived.Laws.Tables
namespace Go.Proofs.Ytecddphahiadlaa
open Go.RowKit

def zeros16 : Array Value := #[.int .i64 0, .int .i64 0, .int .i64 0, .int .i64 0, .int .i64 0, .int .i64 0, .int .i64 0, .int .i64 0, .int .i64 0, .int .i64 0, .int .i64 0, .int .i64 0, .int .i64 0, .int .i64 0, .int .i64 0, .int .i64 0]

theorem zeros16_at : ∀ i, i < 16 → zeros16[i]? = some (.int .i64 0)
  | 0, _ => rfl
  | 1, _ => rfl
  | 2, _ => rfl
  | 3, _ => rfl
  | 4, _ => rfl
  | 5, _ => rfl
  | 6, _ => rfl
  | 7, _ => rfl
  | 8, _ => rfl
  | 9, _ => rfl
  | 10, _ => rfl
  | 11, _ => rfl
  | 12, _ => rfl
  | 13, _ => rfl
  | 14, _ => rfl
  | 15, _ => rfl
  | n + 16, h => absurd h (by omega)

theorem zeros16_tal : IsTal zeros16 (fun _ => 0) := ⟨rfl, zeros16_at⟩

theorem IsTal.rowIs {A : Array Value} {c : Nat → Nat} (h : IsTal A c) (w : World) (t : TypeId) : (w.alloc (.cells A t)).rowIs w.heap.size t 16 (fun i => .int .i64 (c i)) := by
  have := World.rowIs_alloc w A t (fun i => .int .i64 (c i)) (fun i hi => h.at' i (by have := h.size; omega))
  rwa [h.size] at this

theorem IsTal.all {A : Array Value} {c : Nat → Nat} (h : IsTal A c) : A.all (·.oneCell') = true := by
  rw [Array.all_eq_true]
  intro i hi
  have := h.at' i (by have := h.size; omega)
  rw [Array.getElem?_eq_getElem hi] at this
  rw [Option.some.inj this]
  rfl

/-- The cells of a row of sixteen numbers. -/
theorem rowIs_tal {w : World} {b : Nat} {t : TypeId} {c : Nat → Nat} (h : w.rowIs b t 16 (fun i => .int .i64 (c i))) : ∃ A, w.heap[b]? = some (.cells A t (0, 0)) ∧ IsTal A c := by
  obtain ⟨A, hb, hs, ha⟩ := h
  exact ⟨A, hb, hs, ha⟩

theorem Below.setRow {B : Nat} {a w : World} (h : Below B a w) {g : Nat} (hg : B ≤ g) (cs : Array Value) : Below B a (w.setRow g cs) :=
  h.trans ⟨rfl, rfl, rfl, by simp, fun k hk => setRow_other w g k cs (by omega)⟩

end Go.Proofs.Ytecddphahiadlaa
