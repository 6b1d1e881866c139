/- The contract of firsts. -/
import Derived.Test.YtecddphahiadlaaFit
import Derived.Laws.Rows
import Derived.Laws.Tables
namespace Go.Proofs.Ytecddphahiadlaa
open Go.RowKit

structure FirstRel (w wr : World) (c : Nat → Nat) (n : Nat) : Prop where
  below : Below w.heap.size w wr
  cnt : wr.rowIs w.heap.size 63 16 (fun i => .int .i64 (c i))
  res : wr.rowIs (w.heap.size + 1) 62 16 (fun _ => .int .i64 0)
  first : wr.rowIs (w.heap.size + 1 + 1) 62 16 (fun i => .int .i64 (if i ≤ n then fi c i else 0 : Nat))

theorem first_start (w : World) (A : Array Value) (c : Nat → Nat) (hA : IsTal A c) :
    FirstRel w (((w.alloc (.cells A 63)).alloc (.cells zeros16 62)).alloc (.cells zeros16 62)) c 1 := by
  have e1 : (w.alloc (.cells A 63)).heap.size = w.heap.size + 1 := by simp
  have e2 : ((w.alloc (.cells A 63)).alloc (.cells zeros16 62)).heap.size = w.heap.size + 1 + 1 := by simp
  refine ⟨(((Below.refl _ _).alloc (Nat.le_refl _) _).alloc (by simp) _).alloc (by simp; omega) _, ((hA.rowIs w 63).alloc _).alloc _, ?_, ?_⟩
  · have := (zeros16_tal.rowIs (w.alloc (.cells A 63)) 62).alloc (.cells zeros16 62)
    rwa [e1] at this
  · have := zeros16_tal.rowIs ((w.alloc (.cells A 63)).alloc (.cells zeros16 62)) 62
    rw [e2] at this
    refine this.congr (fun i _ => ?_)
    match i with
    | 0 => simp [fi]
    | 1 => simp [fi]
    | i + 2 => simp

theorem first_step {w wr : World} {c : Nat → Nat} {n : Nat} (hc : ∀ i, c i ≤ 288) (hn : n < 14) (h : FirstRel w wr c (n + 1)) :
    FirstRel w (wr.setCell ⟨w.heap.size + 1 + 1, n + 2, none⟩ (.int .i64 (wrap64 (wrap64 ((fi c (n + 1) : Int) + (c (n + 1) : Int)) * 2)))).drew c (n + 2) := by
  rw [fi_wrap c hc n hn]
  refine ⟨(h.below.setCell (by show w.heap.size ≤ w.heap.size + 1 + 1; omega) _).drew, (h.cnt.setOther (by show w.heap.size ≠ w.heap.size + 1 + 1; omega) _).drew,
    (h.res.setOther (by show w.heap.size + 1 ≠ w.heap.size + 1 + 1; omega) _).drew, ((h.first.set (n + 2) _).congr (fun i _ => ?_)).drew⟩
  by_cases e : i = n + 2
  · subst e; simp
  · rw [if_neg e]
    by_cases hle : i ≤ n + 1
    · rw [if_pos hle, if_pos (by omega)]
    · rw [if_neg hle, if_neg (by omega)]

theorem Try.size62 : (Try.prog.info? 62).map (·.size) = some 16 := by kernel_rfl

set_option maxHeartbeats 400000 in
theorem firsts_any (A : Array Value) (c : Nat → Nat) (w : World) (hA : IsTal A c) (hc : ∀ i, c i ≤ 288) :
    Calls Try.prog 25 #[.agg A] w fun e w' => ∃ F, e = .returned (.agg F) ∧ IsTal F (fi c) ∧ Below w.heap.size w w' := by
  go_enter Try.func25, Try.ntmps25
  go_wp2
  go_loopw [4] (fun l wr => ∃ n : Nat, n ≤ 14 ∧ l = .int .i64 (n + 2 : Nat) ∧ FirstRel w wr c (n + 1)) (fun l _ => 17 - (intOf l).toNat)
  case atStart => exact ⟨0, by omega, rfl, first_start w A c hA⟩
  case round =>
    obtain ⟨n, hn, rfl, hrel⟩ := hrel
    by_cases hlt : n < 14
    · have c1 := hrel.cnt.cell (i := n + 1) (by omega)
      have c2 := hrel.first.cell (i := n + 1) (by omega)
      have c3 := hrel.first.cell (i := n + 2) (by omega)
      have f3 := hrel.first.frozen (n + 2)
      have R := first_step hc hlt hrel
      go_wp2
      go_region
      all_goals go_wp2
      all_goals go_roundw
      case rel => exact ⟨n + 1, by omega, by go_num, R⟩
      case measure => simp [intOf]; omega
    · obtain rfl : n = 14 := by omega
      obtain ⟨F, hF, tF⟩ := rowIs_tal (hrel.first.congr (g := fun i => .int .i64 (fi c i : Nat)) (fun i hi => by rw [if_pos (by omega)]))
      obtain ⟨Z, hZ, hZs, _⟩ := hrel.res
      have hi : (Try.prog.info? 62).map (·.size) = some F.size := by rw [tF.size]; exact Try.size62
      have hzs : Z.size = F.size := by rw [hZs, tF.size]
      have hall := tF.all
      have hne := setRow_heap wr (w.heap.size + 1) Z F 62 (0, 0) hZ
      have hbel := Below.setRow hrel.below (g := w.heap.size + 1) (by omega) F
      go_wp2_with (first | (refine wpList_load_row rfl 62 (.tmp 3) rfl (w.heap.size + 1 + 1) rfl 62 F (0, 0) _ hF Try.underlying62 rfl hi ?_) | (refine wpList_store_row rfl 62 (.tmp 2) (.tmp 21) rfl (w.heap.size + 1) F rfl rfl 62 Z hZ hi hzs hall ?_))
      exact bodyPost_ret (v := .agg F) (results_cell_row Try.results25 _ _ (w.heap.size + 1) 62 F (0, 0) _ rfl hne Try.underlying62 rfl hi) rfl ⟨F, rfl, tF, hbel⟩

end Go.Proofs.Ytecddphahiadlaa
