/- Numbers as rows of noughts and ones: plain facts. -/
import Derived.Test.YtecddphahiadlaaPure
namespace Go.Proofs.Ytecddphahiadlaa
open Go.RowKit

theorem bitsL_succ (x m : Nat) : bitsL x (m + 1) = bitsL (x / 2) m ++ [UInt8.ofNat (48 + x % 2)] := by
  unfold bitsL
  rw [List.range_succ, List.map_append]
  congr 1
  · apply List.map_congr_left
    intro i hi
    have hi' : i < m := List.mem_range.1 hi
    unfold bitAt
    have e : m + 1 - 1 - i = (m - 1 - i) + 1 := by omega
    rw [e, Nat.pow_succ, Nat.mul_comm, Nat.div_div_eq_div_mul]
  · simp [bitAt]

theorem bitsL_zero (x : Nat) : bitsL x 0 = [] := rfl

theorem letter_inj {a b : Nat} (ha : a < 2) (hb : b < 2) (h : UInt8.ofNat (48 + a) = UInt8.ofNat (48 + b)) : a = b := by
  have := congrArg UInt8.toNat h
  simp only [UInt8.toNat_ofNat'] at this
  omega

theorem letter_lt {a b : Nat} (ha : a < b) (hb : b < 2) : UInt8.ofNat (48 + a) < UInt8.ofNat (48 + b) := by
  rw [UInt8.lt_iff_toNat_lt]
  simp only [UInt8.toNat_ofNat']
  omega

theorem bitsL_inj : ∀ (m x y : Nat), x < 2 ^ m → y < 2 ^ m → bitsL x m = bitsL y m → x = y
  | 0, x, y, hx, hy, _ => by simp at hx hy; omega
  | m + 1, x, y, hx, hy, h => by
    rw [bitsL_succ, bitsL_succ] at h
    have hl : (bitsL (x / 2) m).length = (bitsL (y / 2) m).length := by rw [bitsL_length, bitsL_length]
    obtain ⟨h1, h2⟩ := List.append_inj h hl
    rw [Nat.pow_succ] at hx hy
    have i1 := bitsL_inj m (x / 2) (y / 2) (by omega) (by omega) h1
    have i2 := letter_inj (by omega) (by omega) (List.singleton_inj.1 h2)
    omega

theorem bitsL_take (x m p : Nat) (h : m ≤ p) : (bitsL x p).take m = bitsL (x / 2 ^ (p - m)) m := by
  induction p generalizing x with
  | zero => obtain rfl : m = 0 := by omega
            simp [bitsL_zero]
  | succ p ih =>
    by_cases e : m = p + 1
    · subst e
      rw [List.take_of_length_le (by rw [bitsL_length]; omega)]
      simp
    · rw [bitsL_succ, List.take_append_of_le_length (by rw [bitsL_length]; omega), ih _ (by omega)]
      have e2 : p + 1 - m = (p - m) + 1 := by omega
      rw [e2, Nat.pow_succ, Nat.mul_comm, Nat.div_div_eq_div_mul]

theorem less_append : ∀ (a b c d : List UInt8), a.length = b.length → Op.bytesLess a b = true → Op.bytesLess (a ++ c) (b ++ d) = true
  | [], [], _, _, _, h => by simp [Op.bytesLess] at h
  | [], _ :: _, _, _, h, _ => by simp at h
  | _ :: _, [], _, _, h, _ => by simp at h
  | x :: a, y :: b, c, d, hl, h => by
    simp only [List.cons_append, Op.bytesLess, Bool.or_eq_true, Bool.and_eq_true] at h ⊢
    rcases h with h | ⟨h1, h2⟩
    · exact Or.inl h
    · exact Or.inr ⟨h1, less_append a b c d (by simpa using hl) h2⟩

theorem less_last : ∀ (a : List UInt8) (c d : UInt8), c < d → Op.bytesLess (a ++ [c]) (a ++ [d]) = true
  | [], c, d, h => by simp [Op.bytesLess, h]
  | x :: a, c, d, h => by
    simp only [List.cons_append, Op.bytesLess, Bool.or_eq_true, Bool.and_eq_true]
    exact Or.inr ⟨by simp, less_last a c d h⟩

theorem less_asymm : ∀ (a b : List UInt8), Op.bytesLess a b = true → Op.bytesLess b a = false
  | [], [], h => by simp [Op.bytesLess] at h
  | [], _ :: _, _ => by simp [Op.bytesLess]
  | _ :: _, [], h => by simp [Op.bytesLess] at h
  | x :: a, y :: b, h => by
    simp only [Op.bytesLess, Bool.or_eq_true, Bool.and_eq_true, decide_eq_true_eq, beq_iff_eq] at h
    rcases h with h | ⟨h1, h2⟩
    · simp only [Op.bytesLess, Bool.or_eq_false_iff, decide_eq_false_iff_not, Bool.and_eq_false_iff, beq_eq_false_iff_ne]
      rw [UInt8.lt_iff_toNat_lt] at h
      refine ⟨by rw [UInt8.lt_iff_toNat_lt]; omega, Or.inl (fun e => ?_)⟩
      rw [e] at h
      omega
    · subst h1
      simp only [Op.bytesLess, less_asymm a b h2]
      simp

theorem bitsL_less : ∀ (m x y : Nat), x < y → y < 2 ^ m → Op.bytesLess (bitsL x m) (bitsL y m) = true
  | 0, x, y, h, hy => by simp at hy; omega
  | m + 1, x, y, h, hy => by
    rw [bitsL_succ, bitsL_succ]
    rw [Nat.pow_succ] at hy
    by_cases e : x / 2 = y / 2
    · rw [e]
      exact less_last _ _ _ (letter_lt (by omega) (by omega))
    · exact less_append _ _ _ _ (by rw [bitsL_length, bitsL_length]) (bitsL_less m (x / 2) (y / 2) (by omega) (by omega))

/-- A shorter (or as long) code whose number is less than the other's beginning: it is less, and neither begins the other. -/
structure Apt (a b : List UInt8) : Prop where
  less : Op.bytesLess a b = true
  not1 : ¬ a <+: b
  not2 : ¬ b <+: a

theorem bitsL_apt (x y m p : Nat) (hm : m ≤ p) (hy : y < 2 ^ p) (h : x < y / 2 ^ (p - m)) : Apt (bitsL x m) (bitsL y p) := by
  have hpw : 2 ^ p = 2 ^ m * 2 ^ (p - m) := by rw [← Nat.pow_add]; congr 1; omega
  have hy' : y / 2 ^ (p - m) < 2 ^ m := by
    rw [Nat.div_lt_iff_lt_mul (Nat.two_pow_pos _), ← hpw]; exact hy
  have ht := bitsL_take y m p hm
  have hne : bitsL x m ≠ bitsL (y / 2 ^ (p - m)) m := fun e => by
    have := bitsL_inj m _ _ (by omega) hy' e
    omega
  have hn1 : ¬ bitsL x m <+: bitsL y p := fun hp => by
    rw [List.prefix_iff_eq_take, bitsL_length, ht] at hp
    exact hne hp
  refine ⟨?_, hn1, fun hp => ?_⟩
  · have h1 := less_append (bitsL x m) (bitsL (y / 2 ^ (p - m)) m) [] ((bitsL y p).drop m) (by rw [bitsL_length, bitsL_length]) (bitsL_less m _ _ h hy')
    rw [List.append_nil, ← ht, List.take_append_drop] at h1
    exact h1
  · have hl := hp.length_le
    rw [bitsL_length, bitsL_length] at hl
    have e := hp.eq_of_length (by rw [bitsL_length, bitsL_length]; omega)
    rw [← e] at hn1
    exact hn1 (List.prefix_refl _)

/-- A code begins a row of bits just if the row's number lies in the code's part. -/
theorem bitsL_begins (x m N p : Nat) (hm : m ≤ p) (hx : x < 2 ^ m) (hN : N < 2 ^ p) : bitsL x m <+: bitsL N p ↔ x = N / 2 ^ (p - m) := by
  have hpw : 2 ^ p = 2 ^ m * 2 ^ (p - m) := by rw [← Nat.pow_add]; congr 1; omega
  have hN' : N / 2 ^ (p - m) < 2 ^ m := by
    rw [Nat.div_lt_iff_lt_mul (Nat.two_pow_pos _), ← hpw]; exact hN
  rw [List.prefix_iff_eq_take, bitsL_length, bitsL_take N m p hm]
  exact ⟨fun e => bitsL_inj m _ _ hx hN' e, fun e => by rw [e]⟩

theorem bitsB_size (x m : Nat) : (bitsB x m).size = m := by
  show (bitsL x m).toArray.size = m
  simp [bitsL_length]

theorem div_mod_bit (N a b : Nat) (h : b < a) : N % 2 ^ a / 2 ^ b % 2 = N / 2 ^ b % 2 := by
  have h1 := Nat.testBit_mod_two_pow N a b
  rw [Nat.testBit_eq_decide_div_mod_eq, Nat.testBit_eq_decide_div_mod_eq, decide_eq_true h, Bool.true_and, decide_eq_decide] at h1
  omega

theorem bitsL_cons (N j : Nat) : bitsL (N % 2 ^ (j + 1)) (j + 1) = UInt8.ofNat (48 + N / 2 ^ j % 2) :: bitsL (N % 2 ^ j) j := by
  unfold bitsL
  rw [List.range_succ_eq_map, List.map_cons, List.map_map]
  congr 1
  · unfold bitAt
    rw [div_mod_bit _ _ _ (by omega)]
    simp
  · apply List.map_congr_left
    intro i hi
    have hi' : i < j := List.mem_range.1 hi
    simp only [Function.comp, bitAt]
    rw [div_mod_bit _ _ _ (by omega), div_mod_bit _ _ _ (by omega)]
    have e : j + 1 - 1 - (i + 1) = j - 1 - i := by omega
    simp only [Nat.succ_eq_add_one, e]

theorem row_step (N j Nj : Nat) (h : Nj = N / 2 ^ j) : (⟨#[48, 49]⟩ : ByteArray).extract (Nj % 2) (Nj % 2 + 1) ++ bitsB (N % 2 ^ j) j = bitsB (N % 2 ^ (j + 1)) (j + 1) := by
  have h1 : (⟨#[48, 49]⟩ : ByteArray).extract (Nj % 2) (Nj % 2 + 1) = ⟨#[UInt8.ofNat (48 + N / 2 ^ j % 2)]⟩ := by
    rw [← h]
    rcases Nat.mod_two_eq_zero_or_one Nj with e | e
    · rw [e]; decide
    · rw [e]; decide
  rw [h1]
  apply ByteArray.ext
  rw [ByteArray.data_append]
  show #[UInt8.ofNat (48 + N / 2 ^ j % 2)] ++ (bitsL (N % 2 ^ j) j).toArray = (bitsL (N % 2 ^ (j + 1)) (j + 1)).toArray
  rw [bitsL_cons]
  simp

end Go.Proofs.Ytecddphahiadlaa
