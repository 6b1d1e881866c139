/- The program's measure and placed. -/
import Derived.Test.YtecddphahiadlaaDoorCPair
import Derived.OwnWalk
namespace Go.Proofs.YtecddphahiadlaaDoor
open Go.RowKit

theorem and_three_i64 (i : Nat) (hi : i < 9223372036854775808) : bits BinOp.and IntKind.i64 (i : Int) 3 = ((i % 4 : Nat) : Int) := by
  have h1 : (BitVec.ofInt 64 (i : Int)).toNat = i := by
    rw [BitVec.ofInt_natCast, BitVec.toNat_ofNat]; exact Nat.mod_eq_of_lt (by omega)
  show IntKind.i64.wrap ((BitVec.ofInt 64 (i : Int) &&& BitVec.ofInt 64 3).toNat : Int) = _
  have h2 : (BitVec.ofInt 64 3).toNat = 3 := by decide
  have h3 : i &&& 3 = i % 4 := Nat.and_two_pow_sub_one_eq_mod i 2
  rw [BitVec.toNat_and, h1, h2, h3, IntKind.wrap_i64]
  omega

/-- What a symbol at a place tells beyond the first one, of lengths and of distances. -/
def tellL (p : Nat) : Nat := if p < 4 then p else (4 + p % 4) * 2 ^ (p / 4 - 1)
def addL (p : Nat) : Nat := if p < 4 then 0 else p / 4 - 1
def tellD (p : Nat) : Nat := if p < 2 then p else (2 + p % 2) * 2 ^ (p / 2 - 1)
def addD (p : Nat) : Nat := if p < 2 then 0 else p / 2 - 1

theorem tellL_eq : ∀ p, p < 28 → 3 + tellL p = baseN 3 8 4 p ∧ addL p = moreN 8 4 p := by decide
theorem tellD_eq : ∀ p, p < 30 → 1 + tellD p = baseN 1 4 2 p ∧ addD p = moreN 4 2 p := by decide

theorem shl_wrap (a W A : Nat) (h : a + W ≤ 8) (hA : A ≤ 14) : wrap64 (((a : Int) + (W : Int)) * 2 ^ A) = (((a + W) * 2 ^ A : Nat) : Int) := by
  have hp : 2 ^ A ≤ 2 ^ 14 := Nat.pow_le_pow_right (by omega) (by omega)
  have h14 : (2 : Nat) ^ 14 = 16384 := rfl
  have hm := Nat.mul_le_mul h hp
  have e : (((a : Int) + (W : Int)) * 2 ^ A) = (((a + W) * 2 ^ A : Nat) : Int) := by simp
  rw [e, IntWalk.wrap64_in _ ⟨by omega, by omega⟩]

set_option maxHeartbeats 400000 in
theorem measureL32_any (p : Nat) (hp : p < 32) (w : World) :
    Calls Tryd.prog 117 #[.int .i64 (p : Int), .int .i64 2] w fun e w' => e = .returned (.tuple #[.int .i64 (tellL p : Nat), .int .i64 (addL p : Nat)]) ∧ w' = w := by
  by_cases h4 : p < 4
  · have H1 : Hid (tellL p = p) := by show _ = _; unfold tellL; rw [if_pos h4]
    have H2 : Hid (addL p = 0) := by show _ = _; unfold addL; rw [if_pos h4]
    go_enter Tryd.func117, Tryd.ntmps117
    go_wp2
    go_ret2
    rw [H1.out, H2.out]
    exact ⟨rfl, rfl⟩
  · have H1 : Hid (tellL p = (4 + p % 4) * 2 ^ (p / 4 - 1)) := by show _ = _; unfold tellL; rw [if_neg h4]
    have H2 : Hid (addL p = p / 4 - 1) := by show _ = _; unfold addL; rw [if_neg h4]
    have ha := and_three_i64 p (by omega)
    obtain ⟨A, hA⟩ : ∃ A, A = p / 4 - 1 := ⟨_, rfl⟩
    obtain ⟨W, hW⟩ : ∃ W, W = p % 4 := ⟨_, rfl⟩
    have hAI : (p : Int) / 4 - 1 = (A : Int) := by omega
    have hAb : A ≤ 6 := by omega
    have hWb : W < 4 := by omega
    rw [← hA] at H1 H2
    rw [← hW] at ha H1
    have HS : Hid (_) := shl_wrap 4 W A (by omega) (by omega)
    clear hA hW
    go_enter Tryd.func117, Tryd.ntmps117
    go_wp2
    go_ret2
    rw [H1.out, H2.out, ← HS.out]
    exact ⟨rfl, rfl⟩

theorem measureL_any (p : Nat) (hp : p < 28) (w : World) :
    Calls Tryd.prog 117 #[.int .i64 (p : Int), .int .i64 2] w fun e w' => e = .returned (.tuple #[.int .i64 (tellL p : Nat), .int .i64 (addL p : Nat)]) ∧ w' = w := measureL32_any p (by omega) w

set_option maxHeartbeats 400000 in
theorem measureD_any (p : Nat) (hp : p < 30) (w : World) :
    Calls Tryd.prog 117 #[.int .i64 (p : Int), .int .i64 1] w fun e w' => e = .returned (.tuple #[.int .i64 (tellD p : Nat), .int .i64 (addD p : Nat)]) ∧ w' = w := by
  by_cases h4 : p < 2
  · have H1 : Hid (tellD p = p) := by show _ = _; unfold tellD; rw [if_pos h4]
    have H2 : Hid (addD p = 0) := by show _ = _; unfold addD; rw [if_pos h4]
    go_enter Tryd.func117, Tryd.ntmps117
    go_wp2
    go_ret2
    rw [H1.out, H2.out]
    exact ⟨rfl, rfl⟩
  · have H1 : Hid (tellD p = (2 + p % 2) * 2 ^ (p / 2 - 1)) := by show _ = _; unfold tellD; rw [if_neg h4]
    have H2 : Hid (addD p = p / 2 - 1) := by show _ = _; unfold addD; rw [if_neg h4]
    have ha := and_one_i64 p (by omega)
    obtain ⟨A, hA⟩ : ∃ A, A = p / 2 - 1 := ⟨_, rfl⟩
    obtain ⟨W, hW⟩ : ∃ W, W = p % 2 := ⟨_, rfl⟩
    have hAI : (p : Int) / 2 - 1 = (A : Int) := by omega
    have hAb : A ≤ 13 := by omega
    have hWb : W < 2 := by omega
    rw [← hA] at H1 H2
    rw [← hW] at ha H1
    have HS : Hid (_) := shl_wrap 2 W A (by omega) (by omega)
    clear hA hW
    go_enter Tryd.func117, Tryd.ntmps117
    go_wp2
    go_ret2
    rw [H1.out, H2.out, ← HS.out]
    exact ⟨rfl, rfl⟩

/-- The place that tells a value, of lengths and of distances. -/
theorem tellL_up : ∀ p, p < 28 → tellL p < tellL (p + 1) ∧ tellL (p + 1) ≤ tellL p + 2 ^ addL p ∧ addL p ≤ 5 := by decide
theorem tellD_up : ∀ p, p < 29 → tellD p < tellD (p + 1) ∧ tellD (p + 1) ≤ tellD p + 2 ^ addD p ∧ addD p ≤ 13 := by decide

def PlL (v p : Nat) : Prop := p < 28 ∧ tellL p ≤ v ∧ v < tellL (p + 1)
def PlD (v p : Nat) : Prop := p < 25 ∧ tellD p ≤ v ∧ v < tellD (p + 1)

set_option maxHeartbeats 400000 in
theorem placedL_any (v : Nat) (hv : v < 255) (w : World) :
    Calls Tryd.prog 105 #[.int .i64 (v : Int), .int .i64 2] w fun e w' => ∃ p, PlL v p ∧ e = .returned (.tuple #[.int .i64 (p : Nat), .int .i64 (v - tellL p : Nat), .int .i64 (addL p : Nat)]) ∧ w' = w := by
  go_enter Tryd.func105, Tryd.ntmps105
  go_wp2_with fail
  go_loopw [7] (fun x wr => ∃ p : Nat, p < 28 ∧ tellL p ≤ v ∧ x = .int .i64 (p : Nat) ∧ wr = w) (fun x _ => 28 - (intOf x).toNat)
  case atStart => exact ⟨0, by omega, by show 0 ≤ v; omega, rfl, rfl⟩
  case round =>
    obtain ⟨p, hp, ht, rfl, rfl⟩ := hrel
    go_wp2_with fail
    refine (measureL32_any (p + 1) (by omega) _).mono ?_
    rintro e w' ⟨rfl, rfl⟩
    by_cases hn : v < tellL (p + 1)
    · have PL : PlL v p := ⟨hp, ht, hn⟩
      generalize tellL (p + 1) = T at hn ⊢
      generalize addL (p + 1) = A
      go_wp2_with fail
      refine (measureL32_any p (by omega) _).mono ?_
      rintro e w' ⟨rfl, rfl⟩
      have H1 : Hid (((v - tellL p : Nat) : Int) = (v : Int) - (tellL p : Nat)) := by show _ = _; omega
      have hb : tellL p < 255 := by omega
      go_wp2
      go_ret3
      exact ⟨p, PL, by rw [H1.out]; rfl, rfl⟩
    · have d1 : decide ((v : Int) < (tellL (p + 1) : Nat)) = false := by rw [decide_eq_false_iff_not]; omega
      have hp1 : p + 1 < 28 := by
        rcases (by omega : p + 1 < 28 ∨ p + 1 = 28) with h | h
        · exact h
        · exfalso
          have e : tellL 28 = 256 := by decide
          rw [h, e] at hn
          omega
      have hT : tellL (p + 1) ≤ v := by omega
      go_wp2
      go_roundw
      case rel => exact ⟨p + 1, hp1, hT, by go_num, trivial⟩
      case measure => simp [intOf]; omega

set_option maxHeartbeats 400000 in
theorem placedD_any (v : Nat) (hv : v < 5000) (w : World) :
    Calls Tryd.prog 105 #[.int .i64 (v : Int), .int .i64 1] w fun e w' => ∃ p, PlD v p ∧ e = .returned (.tuple #[.int .i64 (p : Nat), .int .i64 (v - tellD p : Nat), .int .i64 (addD p : Nat)]) ∧ w' = w := by
  go_enter Tryd.func105, Tryd.ntmps105
  go_wp2_with fail
  go_loopw [7] (fun x wr => ∃ p : Nat, p < 25 ∧ tellD p ≤ v ∧ x = .int .i64 (p : Nat) ∧ wr = w) (fun x _ => 25 - (intOf x).toNat)
  case atStart => exact ⟨0, by omega, by show 0 ≤ v; omega, rfl, rfl⟩
  case round =>
    obtain ⟨p, hp, ht, rfl, rfl⟩ := hrel
    go_wp2_with fail
    refine (measureD_any (p + 1) (by omega) _).mono ?_
    rintro e w' ⟨rfl, rfl⟩
    by_cases hn : v < tellD (p + 1)
    · have PL : PlD v p := ⟨hp, ht, hn⟩
      generalize tellD (p + 1) = T at hn ⊢
      generalize addD (p + 1) = A
      go_wp2_with fail
      refine (measureD_any p (by omega) _).mono ?_
      rintro e w' ⟨rfl, rfl⟩
      have H1 : Hid (((v - tellD p : Nat) : Int) = (v : Int) - (tellD p : Nat)) := by show _ = _; omega
      have hb : tellD p < 5000 := by omega
      go_wp2
      go_ret3
      exact ⟨p, PL, by rw [H1.out]; rfl, rfl⟩
    · have d1 : decide ((v : Int) < (tellD (p + 1) : Nat)) = false := by rw [decide_eq_false_iff_not]; omega
      have hp1 : p + 1 < 25 := by
        rcases (by omega : p + 1 < 25 ∨ p + 1 = 25) with h | h
        · exact h
        · exfalso
          have e : tellD 25 = 6144 := by decide
          rw [h, e] at hn
          omega
      have hT : tellD (p + 1) ≤ v := by omega
      go_wp2
      go_roundw
      case rel => exact ⟨p + 1, hp1, hT, by go_num, trivial⟩
      case measure => simp [intOf]; omega

end Go.Proofs.YtecddphahiadlaaDoor
