/- The contract of fit. -/
import Derived.Test.YtkgnkidejcdofaaText
namespace Go.Proofs.Ytkgnkidejcdofaa
open Go.RowKit

/-- An array of sixteen numbers. -/
structure IsTal (A : Array Value) (c : Nat → Nat) : Prop where
  size : A.size = 16
  at' : ∀ i, i < 16 → A[i]? = some (.int .i64 (c i))

/-- What codes of 1 to n letters take of 1, in parts of 2^-15. -/
def kr (c : Nat → Nat) : Nat → Nat
  | 0 => 0
  | n + 1 => kr c n + c (n + 1) * 2 ^ (15 - (n + 1))

theorem pow_le_15 (n : Nat) : 2 ^ (15 - n) ≤ 32768 := by
  have : 2 ^ (15 - n) ≤ 2 ^ 15 := Nat.pow_le_pow_right (by omega) (by omega)
  simpa using this

theorem kr_le (c : Nat → Nat) (hc : ∀ i, c i ≤ 288) (n : Nat) : kr c n ≤ n * 9437184 := by
  induction n with
  | zero => simp [kr]
  | succ n ih =>
    have h1 := pow_le_15 (n + 1)
    have h2 := Nat.mul_le_mul (hc (n + 1)) h1
    simp only [kr]
    omega

theorem kr_wrap (c : Nat → Nat) (hc : ∀ i, c i ≤ 288) (n : Nat) (hn : n < 15) :
    wrap64 ((kr c n : Int) + wrap64 ((c (n + 1) : Int) * 2 ^ (14 - n))) = (kr c (n + 1) : Int) := by
  have h1 := kr_le c hc n
  have h2 := kr_le c hc (n + 1)
  have e : ((c (n + 1) : Int) * 2 ^ (14 - n)) = ((c (n + 1) * 2 ^ (15 - (n + 1)) : Nat) : Int) := by
    have : 15 - (n + 1) = 14 - n := by omega
    rw [this]; simp
  simp only [kr] at h2 ⊢
  generalize c (n + 1) * 2 ^ (15 - (n + 1)) = p at e h2 ⊢
  rw [e, IntWalk.wrap64_in (p : Int) ⟨by omega, by omega⟩, IntWalk.wrap64_in _ ⟨by omega, by omega⟩]
  omega

set_option maxHeartbeats 400000 in
theorem fit_any (A : Array Value) (c : Nat → Nat) (w : World) (hA : IsTal A c) (hc : ∀ i, c i ≤ 288) :
    Calls Try.prog 18 #[.agg A] w fun e w' => e = .returned (.bool (decide (kr c 15 = 32768))) ∧ Below w.heap.size w w' := by
  have hrow := World.rowIs_alloc w A 52 (fun i => .int .i64 (c i)) (fun i hi => hA.at' i (by have := hA.size; omega))
  rw [hA.size] at hrow
  go_enter Try.func18, Try.ntmps18
  go_wp2
  go_loop [3, 4] (fun s l => ∃ n : Nat, n ≤ 15 ∧ l = .int .i64 (n + 1 : Nat) ∧ s = .int .i64 (kr c n)) (fun _ l => 16 - (intOf l).toNat)
  case atStart => exact ⟨0, by omega, rfl, rfl⟩
  case round =>
    obtain ⟨n, hn, rfl, rfl⟩ := hrel
    by_cases hlt : n < 15
    · have hcell := hrow.cell (i := n + 1) (by omega)
      have hkr := kr_le c hc n
      have hcn := hc (n + 1)
      have HK : Hid (wrap64 ((kr c n : Int) + wrap64 ((c (n + 1) : Int) * 2 ^ (14 - n))) = (kr c (n + 1) : Int)) := kr_wrap c hc n hlt
      go_wp2
      go_round
      case rel => exact ⟨n + 1, by omega, by go_num, by rw [HK.out]⟩
      case measure => simp [intOf]; omega
    · obtain rfl : n = 15 := by omega
      go_wp2
      go_ret
      exact ⟨ret_bool (by rw [Bool.eq_iff_iff, beq_iff_eq, decide_eq_true_iff]; omega), (Below.refl _ _).alloc (Nat.le_refl _) _⟩

end Go.Proofs.Ytkgnkidejcdofaa
