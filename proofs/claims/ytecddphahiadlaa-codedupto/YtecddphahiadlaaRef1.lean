/- Contracts of the reference's small functions: text, part, left. -/
import Derived.Test.YtecddphahiadlaaKraft
namespace Go.Proofs.Ytecddphahiadlaa
open Go.RowKit

set_option maxHeartbeats 400000 in
theorem rtext_any (x m : Nat) (w : World) (hx : x < 2 ^ m) (hm : m ≤ 15) :
    Calls Try.prog 38 #[.int .i64 x, .int .i64 m] w fun e w' => e = .returned (.string (bitsB x m)) ∧ w' = w := by
  have h15 : 2 ^ m ≤ 2 ^ 15 := Nat.pow_le_pow_right (by omega) hm
  have h15' : (2 : Nat) ^ 15 = 32768 := rfl
  have hx15 : x < 32768 := by omega
  have HX : Hid (x % 2 ^ m = x) := Nat.mod_eq_of_lt hx
  clear h15 h15' hx
  go_enter Try.func38, Try.ntmps38
  go_wp2
  go_loop [0, 1, 5] (fun nn i row => ∃ j : Nat, j ≤ m ∧ i = .int .i64 (m - j : Nat) ∧ nn = .int .i64 (x / 2 ^ j : Nat) ∧ row = .string (bitsB (x % 2 ^ j) j)) (fun _ i _ => (intOf i).toNat)
  case atStart => exact ⟨0, by omega, by simp, by simp, by simp [bitsB, bitsL]⟩
  case round =>
    obtain ⟨j, hj, rfl, rfl, rfl⟩ := hrel
    have hNj : x / 2 ^ j ≤ x := Nat.div_le_self _ _
    obtain ⟨Nj, hNj'⟩ : ∃ Nj, Nj = x / 2 ^ j := ⟨_, rfl⟩
    rw [← hNj'] at hNj ⊢
    have HN : Hid (Nj = x / 2 ^ j) := hNj'
    clear hNj'
    obtain ⟨r, hr⟩ : ∃ r, r = m - j := ⟨_, rfl⟩
    rw [← hr]
    by_cases hlt : j < m
    · have hs15 := bitsB_size (x % 2 ^ j) j
      have hs16 : (bitsB (x % 2 ^ j) j).size ≤ 15 := by omega
      clear hs15
      have HR : Hid (_) := row_step x j Nj HN.out
      have HQ : Nj / 2 = x / 2 ^ (j + 1) := by rw [HN.out, Nat.pow_succ, Nat.div_div_eq_div_mul]
      have HQ' : Hid (Nj / 2 = x / 2 ^ (j + 1)) := HQ
      have h1 : 1 ≤ r := by omega
      have h2 : r ≤ 15 := by omega
      have HRR : Hid (r = m - j) := hr
      clear HQ hr
      go_wp2
      go_round
      case rel => exact ⟨j + 1, by omega, by have := HRR.out; go_num, by rw [← HQ'.out]; go_num, congrArg Value.string HR.out⟩
      case measure => simp [intOf]; omega
    · obtain rfl : j = m := by omega
      obtain rfl : r = 0 := by omega
      clear hr
      rw [HX.out]
      go_wp2
      go_ret
      exact ⟨rfl, rfl⟩

set_option maxHeartbeats 400000 in
theorem rpart_any (m : Nat) (w : World) (hm : m ≤ 15) :
    Calls Try.prog 37 #[.int .i64 m] w fun e w' => e = .returned (.int .i64 (2 ^ (15 - m) : Nat)) ∧ w' = w := by
  go_enter Try.func37, Try.ntmps37
  go_wp2
  go_loop [0, 3] (fun i p => ∃ j : Nat, j ≤ m ∧ i = .int .i64 (m - j : Nat) ∧ p = .int .i64 (2 ^ (15 - j) : Nat)) (fun i _ => (intOf i).toNat)
  case atStart => exact ⟨0, by omega, by simp, rfl⟩
  case round =>
    obtain ⟨j, hj, rfl, rfl⟩ := hrel
    obtain ⟨r, hr⟩ : ∃ r, r = m - j := ⟨_, rfl⟩
    obtain ⟨P, hP⟩ : ∃ P, P = 2 ^ (15 - j) := ⟨_, rfl⟩
    have hPb := pow_le_15 j
    rw [← hr, ← hP]
    rw [← hP] at hPb
    by_cases hlt : j < m
    · have h1 : 1 ≤ r := by omega
      have h2 : r ≤ 15 := by omega
      have HRR : Hid (r = m - j) := hr
      have HP : Hid (P / 2 = 2 ^ (15 - (j + 1))) := by
        show P / 2 = 2 ^ (15 - (j + 1))
        rw [hP, show 15 - j = (15 - (j + 1)) + 1 from by omega, Nat.pow_succ]
        omega
      clear hr hP
      go_wp2
      go_round
      case rel => exact ⟨j + 1, by omega, by have := HRR.out; go_num, by rw [← HP.out]; go_num⟩
      case measure => simp [intOf]; omega
    · obtain rfl : j = m := by omega
      obtain rfl : r = 0 := by omega
      subst hP
      clear hr
      go_wp2
      go_ret
      exact ⟨rfl, rfl⟩

/-- What lengths take of 1, noughts passed over. -/
def ks0 (z : Nat → Int) : Nat → Nat
  | 0 => 0
  | k + 1 => ks0 z k + if 0 < z k then wt (z k) else 0

theorem kr_ks0 (z : Nat → Int) (n : Nat) (h : ∀ i, i < n → 0 ≤ z i ∧ z i ≤ 15) : kr (cntN z n) 15 = ks0 z n := by
  induction n with
  | zero => exact kr_ks z 0 (fun i hi => absurd hi (by omega))
  | succ n ih =>
    have e : cntN z (n + 1) = fun l => cntN z n l + if z n = (l : Int) then 1 else 0 := by
      funext l; rfl
    have hn := h n (by omega)
    rw [e, kr_add, ih (fun i hi => h i (by omega))]
    simp only [ks0]
    by_cases h0 : 0 < z n
    · rw [if_pos h0, if_pos (by omega)]
    · rw [if_neg h0, if_neg (by omega)]

theorem wt_le (v : Int) : wt v ≤ 32768 := pow_le_15 _

theorem ks0_leC (C : Nat) (h : ∀ v, wt v ≤ C) (z : Nat → Int) (n : Nat) : ks0 z n ≤ n * C := by
  induction n with
  | zero => simp [ks0]
  | succ n ih =>
    have h1 := h (z n)
    rw [Nat.succ_mul]
    simp only [ks0]
    by_cases h0 : 0 < z n
    · simp only [if_pos h0]; omega
    · simp only [if_neg h0]; omega

theorem ks0_le (z : Nat → Int) (n : Nat) : ks0 z n ≤ n * 32768 := ks0_leC 32768 wt_le z n

set_option maxHeartbeats 400000 in
theorem rleft_any (b off n cap : Nat) (z : Nat → Int) (w : World) (hz : IntsAt w b off n z) (hn : n ≤ 1048576) (hr : ∀ i, i < n → 0 ≤ z i ∧ z i ≤ 15) :
    Calls Try.prog 21 #[.slice (some ⟨b, off, none⟩) n cap] w fun e w' => e = .returned (.int .i64 (32768 - (ks0 z n : Nat))) ∧ w' = w := by
  go_enter Try.func21, Try.ntmps21
  go_wp2
  go_loop [3, 4] (fun p i => ∃ k : Nat, k ≤ n ∧ i = .int .i64 k ∧ p = .int .i64 (32768 - (ks0 z k : Nat))) (fun _ i => n - (intOf i).toNat)
  case atStart => exact ⟨0, by omega, rfl, by simp [ks0]⟩
  case round =>
    obtain ⟨k, hk, rfl, rfl⟩ := hrel
    by_cases hlt : k < n
    · have hc := hz.cell k hlt
      have hr1 := hr k hlt
      obtain ⟨m, hm⟩ := Int.eq_ofNat_of_zero_le hr1.1
      rw [hm] at hc hr1
      have hkl := ks0_le z k
      have hw := wt_le (z k)
      by_cases h0 : m = 0
      · subst h0
        have HK : Hid (ks0 z (k + 1) = ks0 z k) := by show ks0 z (k + 1) = ks0 z k; simp only [ks0, hm]; simp
        clear hm
        go_wp2
        go_round
        case rel => exact ⟨k + 1, by omega, by go_num, by rw [HK.out]⟩
        case measure => simp [intOf]; omega
      · have hp : 0 < (m : Int) := by omega
        have HK : Hid (ks0 z (k + 1) = ks0 z k + 2 ^ (15 - m)) := by
          show ks0 z (k + 1) = ks0 z k + 2 ^ (15 - m)
          simp only [ks0, hm, wt, Int.toNat_natCast]
          rw [if_pos hp]
        have hPb := pow_le_15 m
        clear hm hw
        go_wp2_with fail
        refine (rpart_any m _ (by omega)).mono ?_
        rintro e w' ⟨rfl, rfl⟩
        obtain ⟨P, hP⟩ : ∃ P, P = 2 ^ (15 - m) := ⟨_, rfl⟩
        rw [← hP] at hPb ⊢
        have HP : Hid (P = 2 ^ (15 - m)) := hP
        clear hP
        go_wp2
        go_round
        case rel => exact ⟨k + 1, by omega, by go_num, by rw [HK.out, ← HP.out]; go_num⟩
        case measure => simp [intOf]; omega
    · obtain rfl : k = n := by omega
      go_wp2
      go_ret
      exact ⟨rfl, rfl⟩

end Go.Proofs.Ytecddphahiadlaa
