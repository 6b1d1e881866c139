/- The contract of fit. -/
import Derived.Test.YtecddphahiadlaaTal
namespace Go.Proofs.Ytecddphahiadlaa
open Go.RowKit

set_option maxHeartbeats 400000 in
theorem fit_any (A : Array Value) (c : Nat → Nat) (w : World) (hA : IsTal A c) (hc : ∀ i, c i ≤ 288) :
    Calls Try.prog 24 #[.agg A] w fun e w' => e = .returned (.bool (decide (kr c 15 = 32768))) ∧ Below w.heap.size w w' := by
  have hrow := World.rowIs_alloc w A 63 (fun i => .int .i64 (c i)) (fun i hi => hA.at' i (by have := hA.size; omega))
  rw [hA.size] at hrow
  go_enter Try.func24, Try.ntmps24
  go_wp2
  go_loop [3, 4] (fun s l => ∃ n : Nat, n ≤ 15 ∧ l = .int .i64 (n + 1 : Nat) ∧ s = .int .i64 (kr c n)) (fun _ l => 16 - (intOf l).toNat)
  case atStart => exact ⟨0, by omega, rfl, rfl⟩
  case round =>
    obtain ⟨n, hn, rfl, rfl⟩ := hrel
    by_cases hlt : n < 15
    · have hcell := hrow.cell (i := n + 1) (by omega)
      have hkr := kr_le c hc n
      have hcn := hc (n + 1)
      have HK : Hid (wrap64 ((kr c n : Int) + wrap64 ((c (n + 1) : Int) * 2 ^ (14 - n))) = (kr c (n + 1) : Int)) := kr_wrap c hc n hlt
      go_wp2
      go_round
      case rel => exact ⟨n + 1, by omega, by go_num, by rw [HK.out]⟩
      case measure => simp [intOf]; omega
    · obtain rfl : n = 15 := by omega
      go_wp2
      go_ret
      exact ⟨ret_bool (by rw [Bool.eq_iff_iff, beq_iff_eq, decide_eq_true_iff]; omega), (Below.refl _ _).alloc (Nat.le_refl _) _⟩

end Go.Proofs.Ytecddphahiadlaa
