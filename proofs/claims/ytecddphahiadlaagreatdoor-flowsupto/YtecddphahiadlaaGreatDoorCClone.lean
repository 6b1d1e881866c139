/- A string's copy, as the library makes it. -/
import Derived.Test.YtecddphahiadlaaGreatDoorCPut
import Derived.Lib.Strings
import Derived.Lib.BufferWrite
import Derived.Lib.UnsafeStr
import Derived.Laws.MakeOwn
namespace Go.Proofs.YtecddphahiadlaaGreatDoor
open Go.RowKit

theorem make_bytes (n : Nat) (h : n ≤ 140737488400000) (W : World) : (Instr.makeSlice 80 (.int .i64 (n : Int)) (.int .i64 (n : Int))).run Tryz.prog W = .ok (.slice (some ⟨W.heap.size, 0, none⟩) n n) (W.alloc (.cells (madeCells #[.int .u8 0] n) 5)) := by
  obtain ⟨i0, hi0, hz0, hs0, hby⟩ := info_parts Tryz.info5
  have h := run_make (P := Tryz.prog) W 80 5 i0 (.int .u8 0) Tryz.underlying80 hi0 hz0 .i64 .i64 (n : Int) (n : Int) (by omega) (by omega) (by rw [hby]; omega) (by omega)
  have e : ((n : Int).toNat * i0.size) = n := by rw [hs0]; simp
  rw [e] at h
  simpa [Value.cells] using h

theorem bytes_eq (T : ByteArray) : (⟨T.data.toList.toArray⟩ : ByteArray) = T := by
  apply ByteArray.ext; simp

set_option maxRecDepth 4000 in
set_option maxHeartbeats 1000000 in
theorem clone_any (T : ByteArray) (w : World) (hT : T.size ≤ 140737488400000) :
    Calls Tryz.prog 127 #[.string T] w fun e w' => e = .returned (.string T) ∧ Below w.heap.size w w' := by
  by_cases h0 : T.size = 0
  · have hE : Hid (T = .empty) := by
      show T = _
      apply ByteArray.ext
      exact Array.eq_empty_of_size_eq_zero h0
    have e0 : ((T.size : Int) == 0) = true := by rw [beq_iff_eq]; omega
    go_enter Tryz.func127, Tryz.ntmps127
    go_wp2
    go_ret
    exact ⟨by rw [hE.out]; rfl, Below.refl _ _⟩
  · have e0 : ((T.size : Int) == 0) = false := by rw [beq_eq_false_iff_ne]; omega
    have hp1 : (0 : Int) < (T.size : Int) := by omega
    obtain ⟨i0, hi0, hz0, hs0, hby⟩ := info_parts Tryz.info5
    have hinfo : (Tryz.prog.info? 5).map (·.size) = some 1 := by rw [hi0]; simp [hs0]
    have hco : Tryz.prog.cellsOf 5 = 1 := by kernel_rfl
    have hmk := make_bytes T.size hT
    have hMs : (madeCells #[.int .u8 0] T.size).size = T.size := by rw [size_madeCells]
    have hcp := Lib.run_copy_row_string (P := Tryz.prog) (w.alloc (.cells (madeCells #[.int .u8 0] T.size) 5)) 80 9 3 5 w.heap.size 0 T.size T.size T (madeCells #[.int .u8 0] T.size) 5 Tryz.underlying80 hinfo (heap_alloc_last w _) (Nat.le_refl _) (by omega)
    generalize madeCells #[.int .u8 0] T.size = M at hmk hMs hcp
    obtain ⟨Y, hY⟩ : ∃ Y, Y = (M.toList.take 0 ++ Lib.byteCells T.data.toList ++ M.toList.drop (0 + T.size)).toArray := ⟨_, rfl⟩
    rw [← hY] at hcp
    have hYl : Y.toList = Lib.byteCells T.data.toList := by
      rw [hY, List.toList_toArray, List.take_zero, List.nil_append, List.drop_of_length_le (by rw [Array.length_toList]; omega), List.append_nil]
    have hYs : Y.size = T.size := by rw [← Array.length_toList, hYl, Lib.byteCells_length]; exact Array.length_toList
    have hgY : ((w.alloc (.cells M 5)).setRow w.heap.size Y).heap[w.heap.size]? = some (.cells Y 5 (0, 0)) := setRow_heap _ _ M _ 5 (0, 0) (heap_alloc_last w _)
    have hbe : Below w.heap.size w ((w.alloc (.cells M 5)).setRow w.heap.size Y) := ((Below.refl _ _).alloc (Nat.le_refl _) _).trans ⟨rfl, rfl, rfl, by simp, fun k hk => setRow_other _ _ _ _ (by omega)⟩
    have hne : T.data.toList ≠ [] := fun e => h0 (by have : T.data.toList.length = T.size := Array.length_toList; rw [e] at this; simp at this; omega)
    have hlen : T.data.toList.length = T.size := Array.length_toList
    have hus := Lib.run_unsafeString_row (P := Tryz.prog) ((w.alloc (.cells M 5)).setRow w.heap.size Y) 196 3 9 5 Tryz.underlying196 hco w.heap.size Y.size (by unfold World.shape?; rw [hgY]) T.data.toList hne (by omega) (by omega) (fun j x hj => Lib.cells_of_row hgY Y.size j _ (by rw [List.take_of_length_le (by rw [Array.length_toList]; exact Nat.le_refl _), hYl]; simp [Lib.byteCells, hj]))
    rw [hlen, bytes_eq] at hus
    have hbf := Lib.below_freeze hbe (p := ⟨w.heap.size, 0, none⟩) (Nat.le_refl _) T.size
    generalize (w.alloc (.cells M 5)).setRow w.heap.size Y = w2 at hcp hus hbf
    clear hgY hbe hYl hYs hY hMs hlen
    go_enter Tryz.func127, Tryz.ntmps127
    go_wp2
    go_ret
    exact ⟨rfl, hbf⟩

set_option maxHeartbeats 400000 in
theorem sclone_any (T : ByteArray) (w : World) (hT : T.size ≤ 140737488400000) :
    Calls Tryz.prog 108 #[.string T] w fun e w' => e = .returned (.string T) ∧ Below w.heap.size w w' := by
  go_enter Tryz.func108, Tryz.ntmps108
  go_wp2_with fail
  refine (clone_any T _ hT).mono ?_
  rintro e w1 ⟨rfl, hb⟩
  go_wp2
  go_ret
  exact ⟨rfl, hb⟩

end Go.Proofs.YtecddphahiadlaaGreatDoor
