/- The document's used, bases, order. -/
import Derived.Test.YtecddphahiadlaaGreatDoorCSym
import Derived.Test.YtecddphahiadlaaGreatDoorCRef2
namespace Go.Proofs.YtecddphahiadlaaGreatDoor
open Go.RowKit

/-- How many of the first k numbers are above 0. -/
def usedN (z : Nat → Int) : Nat → Nat
  | 0 => 0
  | k + 1 => usedN z k + if 0 < z k then 1 else 0

theorem usedN_le (z : Nat → Int) (k : Nat) : usedN z k ≤ k := by
  induction k with
  | zero => simp [usedN]
  | succ k ih => simp only [usedN]; split <;> omega

set_option maxHeartbeats 400000 in
theorem used_any (b off n cap : Nat) (z : Nat → Int) (w : World) (hz : IntsAt w b off n z) (hn : n ≤ 1000) :
    Calls Tryz.prog 115 #[.slice (some ⟨b, off, none⟩) n cap] w fun e w' => e = .returned (.int .i64 (usedN z n : Nat)) ∧ w' = w := by
  go_enter Tryz.func115, Tryz.ntmps115
  go_wp2
  go_loop [3, 4] (fun p i => ∃ k : Nat, k ≤ n ∧ i = .int .i64 k ∧ p = .int .i64 (usedN z k : Nat)) (fun _ i => n - (intOf i).toNat)
  case atStart => exact ⟨0, by omega, rfl, rfl⟩
  case round =>
    obtain ⟨k, hk, rfl, rfl⟩ := hrel
    have hu := usedN_le z k
    by_cases hlt : k < n
    · have hc := hz.cell k hlt
      by_cases h0 : 0 < z k
      · have HU : Hid (usedN z (k + 1) = usedN z k + 1) := by show _ = _; simp only [usedN]; rw [if_pos h0]
        go_wp2
        go_round
        case rel => exact ⟨k + 1, by omega, by go_num, by rw [HU.out]; go_num⟩
        case measure => simp [intOf]; omega
      · have HU : Hid (usedN z (k + 1) = usedN z k) := by show _ = _; simp only [usedN]; rw [if_neg h0, Nat.add_zero]
        go_wp2
        go_round
        case rel => exact ⟨k + 1, by omega, by go_num, by rw [HU.out]⟩
        case measure => simp [intOf]; omega
    · obtain rfl : k = n := by omega
      go_wp2
      go_ret
      exact ⟨rfl, rfl⟩

/-- How many bits are added for symbol i; and the least number that it tells. -/
def moreN (none each i : Nat) : Nat := if none ≤ i then 1 + (i - none) / each else 0
def baseN (first none each : Nat) : Nat → Nat
  | 0 => first
  | i + 1 => baseN first none each i + 2 ^ moreN none each i

theorem moreN_le (none each i : Nat) (he : 2 ≤ each) (hi : i ≤ 31) : moreN none each i ≤ 16 := by
  unfold moreN
  split
  · have : (i - none) / each ≤ (i - none) / 2 := Nat.div_le_div_left he (by omega)
    omega
  · omega

theorem baseN_le (first none each : Nat) (he : 2 ≤ each) (hf : first ≤ 3) : ∀ i, i ≤ 31 → baseN first none each i ≤ 3 + i * 65536
  | 0, _ => by simp [baseN]; omega
  | i + 1, hi => by
    have ih := baseN_le first none each he hf i (by omega)
    have h1 := moreN_le none each i he (by omega)
    have h2 : 2 ^ moreN none each i ≤ 2 ^ 16 := Nat.pow_le_pow_right (by omega) h1
    have h3 : (2 : Nat) ^ 16 = 65536 := rfl
    simp only [baseN]
    omega

set_option maxHeartbeats 400000 in
theorem bases_any (k first none each : Nat) (w : World) (hk : k ≤ 30) (hf : first ≤ 3) (hno : none ≤ 30) (he : 2 ≤ each) (he2 : each ≤ 30) :
    Calls Tryz.prog 129 #[.int .i64 (k : Int), .int .i64 (first : Int), .int .i64 (none : Int), .int .i64 (each : Int)] w fun e w' => e = .returned (.tuple #[.int .i64 (baseN first none each k : Nat), .int .i64 (moreN none each k : Nat)]) ∧ w' = w := by
  go_enter Tryz.func129, Tryz.ntmps129
  go_wp2_with fail
  go_loop [10, 11, 12, 13] (fun b i _ _ => ∃ j : Nat, j ≤ k ∧ i = .int .i64 (j : Nat) ∧ b = .int .i64 (baseN first none each j : Nat)) (fun _ i _ _ => k + 1 - (intOf i).toNat)
  case atStart => exact ⟨0, by omega, rfl, rfl⟩
  case round =>
    obtain ⟨j, hj, rfl, rfl⟩ := hrel
    have hml := moreN_le none each j he (by omega)
    have hbl := baseN_le first none each he hf j (by omega)
    obtain ⟨bs, hbs⟩ : ∃ bs, bs = baseN first none each j := ⟨_, rfl⟩
    rw [← hbs] at hbl ⊢
    have HBS : Hid (bs = baseN first none each j) := hbs
    clear hbs
    by_cases hlo : none ≤ j
    · have d1 : decide ((none : Int) ≤ (j : Int)) = true := by rw [decide_eq_true_iff]; omega
      obtain ⟨x, hx⟩ : ∃ x, x = (j - none) / each := ⟨_, rfl⟩
      have hxI : ((j : Int) - (none : Int)) / (each : Int) = (x : Int) := by
        rw [hx]
        have : ((j - none : Nat) : Int) = (j : Int) - (none : Int) := by omega
        rw [← this]; simp
      have hm : moreN none each j = 1 + x := by unfold moreN; rw [if_pos hlo, hx]
      rw [hm] at hml
      have HM : Hid (moreN none each j = 1 + x) := hm
      clear hx hm
      by_cases hjk : j = k
      · subst hjk
        have e1 : ((j : Int) == (j : Int)) = true := by simp
        go_wp2
        go_ret2
        exact ⟨by rw [HBS.out, HM.out]; rfl, rfl⟩
      · have e1 : ((j : Int) == (k : Int)) = false := by rw [beq_eq_false_iff_ne]; omega
        go_wp2
        go_loop [12, 13] (fun m p => ∃ t : Nat, t ≤ (1 + x) ∧ m = .int .i64 ((1 + x) - t : Nat) ∧ p = .int .i64 (2 ^ t : Nat)) (fun m _ => (intOf m).toNat)
        case atStart => exact ⟨0, by omega, by go_num, rfl⟩
        case round =>
          obtain ⟨t, ht, rfl, rfl⟩ := hrel
          have hp : 2 ^ t ≤ 2 ^ 16 := Nat.pow_le_pow_right (by omega) (by omega)
          have h16 : (2 : Nat) ^ 16 = 65536 := rfl
          obtain ⟨P, hP⟩ : ∃ P, P = 2 ^ t := ⟨_, rfl⟩
          obtain ⟨y, hy⟩ : ∃ y, y = (1 + x) - t := ⟨_, rfl⟩
          have hPb : P ≤ 65536 := by omega
          rw [← hP, ← hy]
          clear hp h16
          by_cases hlt : t < (1 + x)
          · have h1 : 1 ≤ y := by omega
            have h2 : y ≤ 16 := by omega
            have HY : Hid (y = (1 + x) - t) := hy
            have HP : Hid (2 * P = 2 ^ (t + 1)) := by show _ = _; rw [hP, Nat.pow_succ, Nat.mul_comm]
            clear hy hP
            go_wp2
            go_round
            case rel => exact ⟨t + 1, by omega, by have := HY.out; go_num, by rw [← HP.out]; go_num⟩
            case measure => simp [intOf]; omega
          · obtain rfl : y = 0 := by omega
            have HB2 : Hid (baseN first none each (j + 1) = bs + P) := by
              show _ = _
              simp only [baseN]
              rw [HM.out, ← HBS.out, hP, show t = (1 + x) from by omega]
            clear hy hP
            go_wp2
            go_round
            case rel => exact ⟨j + 1, by omega, by go_num, by rw [HB2.out]; go_num⟩
            case measure => simp [intOf]; omega
    · have d1 : decide ((none : Int) ≤ (j : Int)) = false := by rw [decide_eq_false_iff_not]; omega
      have HM : Hid (moreN none each j = 0) := by show _ = _; unfold moreN; rw [if_neg hlo]
      by_cases hjk : j = k
      · subst hjk
        have e1 : ((j : Int) == (j : Int)) = true := by simp
        go_wp2
        go_ret2
        exact ⟨by rw [HBS.out, HM.out]; rfl, rfl⟩
      · have e1 : ((j : Int) == (k : Int)) = false := by rw [beq_eq_false_iff_ne]; omega
        go_wp2
        go_loop [12, 13] (fun m p => ∃ t : Nat, t ≤ 0 ∧ m = .int .i64 (0 - t : Nat) ∧ p = .int .i64 (2 ^ t : Nat)) (fun m _ => (intOf m).toNat)
        case atStart => exact ⟨0, by omega, by go_num, rfl⟩
        case round =>
          obtain ⟨t, ht, rfl, rfl⟩ := hrel
          have hp : 2 ^ t ≤ 2 ^ 16 := Nat.pow_le_pow_right (by omega) (by omega)
          have h16 : (2 : Nat) ^ 16 = 65536 := rfl
          obtain ⟨P, hP⟩ : ∃ P, P = 2 ^ t := ⟨_, rfl⟩
          obtain ⟨y, hy⟩ : ∃ y, y = 0 - t := ⟨_, rfl⟩
          have hPb : P ≤ 65536 := by omega
          rw [← hP, ← hy]
          clear hp h16
          by_cases hlt : t < 0
          · omega
          · obtain rfl : y = 0 := by omega
            have HB2 : Hid (baseN first none each (j + 1) = bs + P) := by
              show _ = _
              simp only [baseN]
              rw [HM.out, ← HBS.out, hP, show t = 0 from by omega]
            clear hy hP
            go_wp2
            go_round
            case rel => exact ⟨j + 1, by omega, by go_num, by rw [HB2.out]; go_num⟩
            case measure => simp [intOf]; omega

end Go.Proofs.YtecddphahiadlaaGreatDoor
