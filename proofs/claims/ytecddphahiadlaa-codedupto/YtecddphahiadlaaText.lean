/- The contract of the function that writes a code out. -/
import Derived.Test.YtecddphahiadlaaLeaf
import Derived.Deep.OwnRows
namespace Go.Proofs.Ytecddphahiadlaa
open Go.RowKit


structure TextRel (w wr : World) (x m k : Nat) : Prop where
  below : Below w.heap.size w wr
  row : wr.rowIs w.heap.size 5 m (fun i => if i < k then .int .u8 ((48 + bitAt x m i : Nat) : Int) else .int .u8 0)

theorem text_start (w : World) (x m : Nat) : TextRel w (w.alloc (.cells (madeCells #[.int .u8 0] m) 5)) x m 0 :=
  ⟨(Below.refl _ _).alloc (Nat.le_refl _) _, (World.rowIs_made w _ m 5).congr (fun j _ => by simp)⟩

theorem text_step {w wr : World} {x m k : Nat} (hx : x < 32768) (h : TextRel w wr x m k) :
    TextRel w (wr.setCell ⟨w.heap.size, k, none⟩ (.int .u8 ((48 + bits BinOp.and IntKind.i64 ((x : Int) / 2 ^ (m - 1 - k)) 1) % 256))) x m (k + 1) := by
  refine ⟨h.below.setCell (Nat.le_refl _) _, (h.row.set k _).congr (fun i _ => ?_)⟩
  rw [letter_eq x _ hx]
  by_cases e : i = k
  · subst e; simp [bitAt]
  · rw [if_neg e]
    by_cases hlt : i < k
    · rw [if_pos hlt, if_pos (by omega)]
    · rw [if_neg hlt, if_neg (by omega)]

theorem text_end {w wr : World} {x m : Nat} (h : TextRel w wr x m m) : (convert 57 9 (.slice (some ⟨w.heap.size, 0, none⟩) m m)).run Try.prog wr = .ok (.string (bitsB x m)) wr := by
  have hl := bitsL_length x m
  have := run_convert_bytes_back (P := Try.prog) wr 57 9 5 ⟨w.heap.size, 0, none⟩ m (bitsL x m) Try.underlying57 Try.underlying5 Try.underlying9 (fun j hj => by
    have hj' : j < m := by omega
    have hc := h.row.cell hj'
    have hb := bitAt_lt x m j
    rw [addr_add0, hc, if_pos hj']
    simp only [bitsL, List.getElem_map, List.getElem_range, UInt8.toNat_ofNat']
    rw [Nat.mod_eq_of_lt (by omega)])
  rw [hl] at this
  exact this

set_option maxHeartbeats 400000 in
theorem text_any (x m : Nat) (w : World) (hx : x < 32768) (hm : m ≤ 15) :
    Calls Try.prog 26 #[.int .i64 x, .int .i64 m] w fun e w' => e = .returned (.string (bitsB x m)) ∧ Below w.heap.size w w' := by
  have hmk := run_make_row' (P := Try.prog) 57 5 (.int .u8 0) 1 Try.underlying57 Try.info5 rfl .i64 .i64 m (by omega) (by omega)
  go_enter Try.func26, Try.ntmps26
  go_wp2
  go_loopw [11] (fun i wr => ∃ k : Nat, k ≤ m ∧ i = .int .i64 k ∧ TextRel w wr x m k) (fun i _ => m - (intOf i).toNat)
  case atStart => exact ⟨0, by omega, rfl, text_start w x m⟩
  case round =>
    obtain ⟨k, hk, rfl, hrel⟩ := hrel
    by_cases hlt : k < m
    · have hc := hrel.row.cell hlt
      have hf := hrel.row.frozen k
      have R := text_step hx hrel
      go_wp2
      go_roundw
      case rel => exact ⟨k + 1, by omega, by go_num, R⟩
      case measure => simp [intOf]; omega
    · obtain rfl : k = m := by omega
      have hcv := text_end hrel
      go_wp2
      go_ret
      exact ⟨rfl, hrel.below⟩

end Go.Proofs.Ytecddphahiadlaa
