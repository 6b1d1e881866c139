import Derived.Test.YtecddphahiadlaaGreatDoorCPure
/- Numbers as rows of noughts and ones: plain facts. -/
namespace Go.Proofs.YtecddphahiadlaaGreatDoor
open Go.RowKit

theorem bitsL_succ (x m : Nat) : bitsL x (m + 1) = bitsL (x / 2) m ++ [UInt8.ofNat (48 + x % 2)] := by
  unfold bitsL
  rw [List.range_succ, List.map_append]
  congr 1
  · apply List.map_congr_left
    intro i hi
    have hi' : i < m := List.mem_range.1 hi
    unfold bitAt
    have e : m + 1 - 1 - i = (m - 1 - i) + 1 := by omega
    rw [e, Nat.pow_succ, Nat.mul_comm, Nat.div_div_eq_div_mul]
  · simp [bitAt]

theorem bitsL_zero (x : Nat) : bitsL x 0 = [] := rfl

theorem letter_inj {a b : Nat} (ha : a < 2) (hb : b < 2) (h : UInt8.ofNat (48 + a) = UInt8.ofNat (48 + b)) : a = b := by
  have := congrArg UInt8.toNat h
  simp only [UInt8.toNat_ofNat'] at this
  omega

theorem letter_lt {a b : Nat} (ha : a < b) (hb : b < 2) : UInt8.ofNat (48 + a) < UInt8.ofNat (48 + b) := by
  rw [UInt8.lt_iff_toNat_lt]
  simp only [UInt8.toNat_ofNat']
  omega

theorem bitsL_inj : ∀ (m x y : Nat), x < 2 ^ m → y < 2 ^ m → bitsL x m = bitsL y m → x = y
  | 0, x, y, hx, hy, _ => by simp at hx hy; omega
  | m + 1, x, y, hx, hy, h => by
    rw [bitsL_succ, bitsL_succ] at h
    have hl : (bitsL (x / 2) m).length = (bitsL (y / 2) m).length := by rw [bitsL_length, bitsL_length]
    obtain ⟨h1, h2⟩ := List.append_inj h hl
    rw [Nat.pow_succ] at hx hy
    have i1 := bitsL_inj m (x / 2) (y / 2) (by omega) (by omega) h1
    have i2 := letter_inj (by omega) (by omega) (List.singleton_inj.1 h2)
    omega

theorem bitsL_take (x m p : Nat) (h : m ≤ p) : (bitsL x p).take m = bitsL (x / 2 ^ (p - m)) m := by
  induction p generalizing x with
  | zero => obtain rfl : m = 0 := by omega
            simp [bitsL_zero]
  | succ p ih =>
    by_cases e : m = p + 1
    · subst e
      rw [List.take_of_length_le (by rw [bitsL_length]; omega)]
      simp
    · rw [bitsL_succ, List.take_append_of_le_length (by rw [bitsL_length]; omega), ih _ (by omega)]
      have e2 : p + 1 - m = (p - m) + 1 := by omega
      rw [e2, Nat.pow_succ, Nat.mul_comm, Nat.div_div_eq_div_mul]

theorem less_append : ∀ (a b c d : List UInt8), a.length = b.length → Op.bytesLess a b = true → Op.bytesLess (a ++ c) (b ++ d) = true
  | [], [], _, _, _, h => by simp [Op.bytesLess] at h
  | [], _ :: _, _, _, h, _ => by simp at h
  | _ :: _, [], _, _, h, _ => by simp at h
  | x :: a, y :: b, c, d, hl, h => by
    simp only [List.cons_append, Op.bytesLess, Bool.or_eq_true, Bool.and_eq_true] at h ⊢
    rcases h with h | ⟨h1, h2⟩
    · exact Or.inl h
    · exact Or.inr ⟨h1, less_append a b c d (by simpa using hl) h2⟩

theorem less_last : ∀ (a : List UInt8) (c d : UInt8), c < d → Op.bytesLess (a ++ [c]) (a ++ [d]) = true
  | [], c, d, h => by simp [Op.bytesLess, h]
  | x :: a, c, d, h => by
    simp only [List.cons_append, Op.bytesLess, Bool.or_eq_true, Bool.and_eq_true]
    exact Or.inr ⟨by simp, less_last a c d h⟩

theorem less_asymm : ∀ (a b : List UInt8), Op.bytesLess a b = true → Op.bytesLess b a = false
  | [], [], h => by simp [Op.bytesLess] at h
  | [], _ :: _, _ => by simp [Op.bytesLess]
  | _ :: _, [], h => by simp [Op.bytesLess] at h
  | x :: a, y :: b, h => by
    simp only [Op.bytesLess, Bool.or_eq_true, Bool.and_eq_true, decide_eq_true_eq, beq_iff_eq] at h
    rcases h with h | ⟨h1, h2⟩
    · simp only [Op.bytesLess, Bool.or_eq_false_iff, decide_eq_false_iff_not, Bool.and_eq_false_iff, beq_eq_false_iff_ne]
      rw [UInt8.lt_iff_toNat_lt] at h
      refine ⟨by rw [UInt8.lt_iff_toNat_lt]; omega, Or.inl (fun e => ?_)⟩
      rw [e] at h
      omega
    · subst h1
      simp only [Op.bytesLess, less_asymm a b h2]
      simp

theorem bitsL_less : ∀ (m x y : Nat), x < y → y < 2 ^ m → Op.bytesLess (bitsL x m) (bitsL y m) = true
  | 0, x, y, h, hy => by simp at hy; omega
  | m + 1, x, y, h, hy => by
    rw [bitsL_succ, bitsL_succ]
    rw [Nat.pow_succ] at hy
    by_cases e : x / 2 = y / 2
    · rw [e]
      exact less_last _ _ _ (letter_lt (by omega) (by omega))
    · exact less_append _ _ _ _ (by rw [bitsL_length, bitsL_length]) (bitsL_less m (x / 2) (y / 2) (by omega) (by omega))

/-- A shorter (or as long) code whose number is less than the other's beginning: it is less, and neither begins the other. -/
structure Apt (a b : List UInt8) : Prop where
  less : Op.bytesLess a b = true
  not1 : ¬ a <+: b
  not2 : ¬ b <+: a

theorem bitsL_apt (x y m p : Nat) (hm : m ≤ p) (hy : y < 2 ^ p) (h : x < y / 2 ^ (p - m)) : Apt (bitsL x m) (bitsL y p) := by
  have hpw : 2 ^ p = 2 ^ m * 2 ^ (p - m) := by rw [← Nat.pow_add]; congr 1; omega
  have hy' : y / 2 ^ (p - m) < 2 ^ m := by
    rw [Nat.div_lt_iff_lt_mul (Nat.two_pow_pos _), ← hpw]; exact hy
  have ht := bitsL_take y m p hm
  have hne : bitsL x m ≠ bitsL (y / 2 ^ (p - m)) m := fun e => by
    have := bitsL_inj m _ _ (by omega) hy' e
    omega
  have hn1 : ¬ bitsL x m <+: bitsL y p := fun hp => by
    rw [List.prefix_iff_eq_take, bitsL_length, ht] at hp
    exact hne hp
  refine ⟨?_, hn1, fun hp => ?_⟩
  · have h1 := less_append (bitsL x m) (bitsL (y / 2 ^ (p - m)) m) [] ((bitsL y p).drop m) (by rw [bitsL_length, bitsL_length]) (bitsL_less m _ _ h hy')
    rw [List.append_nil, ← ht, List.take_append_drop] at h1
    exact h1
  · have hl := hp.length_le
    rw [bitsL_length, bitsL_length] at hl
    have e := hp.eq_of_length (by rw [bitsL_length, bitsL_length]; omega)
    rw [← e] at hn1
    exact hn1 (List.prefix_refl _)

/-- A code begins a row of bits just if the row's number lies in the code's part. -/
theorem bitsL_begins (x m N p : Nat) (hm : m ≤ p) (hx : x < 2 ^ m) (hN : N < 2 ^ p) : bitsL x m <+: bitsL N p ↔ x = N / 2 ^ (p - m) := by
  have hpw : 2 ^ p = 2 ^ m * 2 ^ (p - m) := by rw [← Nat.pow_add]; congr 1; omega
  have hN' : N / 2 ^ (p - m) < 2 ^ m := by
    rw [Nat.div_lt_iff_lt_mul (Nat.two_pow_pos _), ← hpw]; exact hN
  rw [List.prefix_iff_eq_take, bitsL_length, bitsL_take N m p hm]
  exact ⟨fun e => bitsL_inj m _ _ hx hN' e, fun e => by rw [e]⟩

theorem bitsB_size (x m : Nat) : (bitsB x m).size = m := by
  show (bitsL x m).toArray.size = m
  simp [bitsL_length]

theorem div_mod_bit (N a b : Nat) (h : b < a) : N % 2 ^ a / 2 ^ b % 2 = N / 2 ^ b % 2 := by
  have h1 := Nat.testBit_mod_two_pow N a b
  rw [Nat.testBit_eq_decide_div_mod_eq, Nat.testBit_eq_decide_div_mod_eq, decide_eq_true h, Bool.true_and, decide_eq_decide] at h1
  omega

theorem bitsL_cons (N j : Nat) : bitsL (N % 2 ^ (j + 1)) (j + 1) = UInt8.ofNat (48 + N / 2 ^ j % 2) :: bitsL (N % 2 ^ j) j := by
  unfold bitsL
  rw [List.range_succ_eq_map, List.map_cons, List.map_map]
  congr 1
  · unfold bitAt
    rw [div_mod_bit _ _ _ (by omega)]
    simp
  · apply List.map_congr_left
    intro i hi
    have hi' : i < j := List.mem_range.1 hi
    simp only [Function.comp, bitAt]
    rw [div_mod_bit _ _ _ (by omega), div_mod_bit _ _ _ (by omega)]
    have e : j + 1 - 1 - (i + 1) = j - 1 - i := by omega
    simp only [Nat.succ_eq_add_one, e]

theorem row_step (N j Nj : Nat) (h : Nj = N / 2 ^ j) : (⟨#[48, 49]⟩ : ByteArray).extract (Nj % 2) (Nj % 2 + 1) ++ bitsB (N % 2 ^ j) j = bitsB (N % 2 ^ (j + 1)) (j + 1) := by
  have h1 : (⟨#[48, 49]⟩ : ByteArray).extract (Nj % 2) (Nj % 2 + 1) = ⟨#[UInt8.ofNat (48 + N / 2 ^ j % 2)]⟩ := by
    rw [← h]
    rcases Nat.mod_two_eq_zero_or_one Nj with e | e
    · rw [e]; decide
    · rw [e]; decide
  rw [h1]
  apply ByteArray.ext
  rw [ByteArray.data_append]
  show #[UInt8.ofNat (48 + N / 2 ^ j % 2)] ++ (bitsL (N % 2 ^ j) j).toArray = (bitsL (N % 2 ^ (j + 1)) (j + 1)).toArray
  rw [bitsL_cons]
  simp

end Go.Proofs.YtecddphahiadlaaGreatDoor

/- Lengths that fit fill all rows of bits, and codes rise: plain facts. -/
namespace Go.Proofs.YtecddphahiadlaaGreatDoor
open Go.RowKit

/-- Lengths that fit, each of them 1 to 15. -/
structure Full (z : Nat → Int) (n : Nat) : Prop where
  fit : fitB z n = true
  low : ∀ i, i < n → 1 ≤ z i

theorem Full.kr {z : Nat → Int} {n : Nat} (h : Full z n) : kr (cntN z n) 15 = 32768 := by
  have := h.fit
  simp only [fitB, Bool.and_eq_true, decide_eq_true_eq] at this
  exact this.2
theorem Full.rng {z : Nat → Int} {n i : Nat} (h : Full z n) (hi : i < n) : 1 ≤ (z i).toNat ∧ (z i).toNat ≤ 15 ∧ z i = ((z i).toNat : Int) := by
  have := h.fit
  simp only [fitB, Bool.and_eq_true] at this
  have h1 := ((okB_iff z n).1 this.1).2 i hi
  have h2 := h.low i hi
  omega

theorem codeN_part {z : Nat → Int} {n : Nat} (h : Full z n) {i k : Nat} (hi : i < n) (hk : k < n) (ho : (z k).toNat < (z i).toNat ∨ ((z k).toNat = (z i).toNat ∧ k < i)) :
    (codeN z n k + 1) * 2 ^ (15 - (z k).toNat) ≤ codeN z n i * 2 ^ (15 - (z i).toNat) := by
  obtain ⟨a1, a2, a3⟩ := h.rng hi
  obtain ⟨b1, b2, b3⟩ := h.rng hk
  rcases ho with ho | ⟨ho, hki⟩
  · obtain ⟨q, hq⟩ : ∃ q, (z k).toNat = q + 1 := ⟨(z k).toNat - 1, by omega⟩
    obtain ⟨p, hp⟩ : ∃ p, (z i).toNat = p + 1 := ⟨(z i).toNat - 1, by omega⟩
    have h1 := cntN_lt z (m := (z k).toNat) hk b3
    have e1 : codeN z n k + 1 ≤ fi (cntN z n) (q + 1) + cntN z n (q + 1) := by
      unfold codeN; rw [hq] at h1 ⊢; omega
    have h2 := Nat.mul_le_mul_right (2 ^ (15 - (q + 1))) e1
    rw [Nat.add_mul (fi (cntN z n) (q + 1)), fi_kr _ q (by omega), ← kr_succ] at h2
    have h3 := kr_mono (cntN z n) (show q + 1 ≤ p by omega)
    rw [← fi_kr (cntN z n) p (by omega)] at h3
    have h4 : fi (cntN z n) (p + 1) ≤ codeN z n i := by
      unfold codeN; rw [hp]; omega
    have h5 := Nat.mul_le_mul_right (2 ^ (15 - (p + 1))) h4
    rw [hq, hp]
    omega
  · rw [ho]
    apply Nat.mul_le_mul_right
    have h1 := cntN_lt z (m := (z k).toNat) hki b3
    unfold codeN
    rw [ho] at h1 ⊢
    omega

theorem codeT_eq {z : Nat → Int} {n : Nat} (h : Full z n) {i : Nat} (hi : i < n) : codeT z n i = bitsB (codeN z n i) (z i).toNat := by
  have := h.low i hi
  unfold codeT
  rw [if_neg (by omega)]

theorem codes_apt {z : Nat → Int} {n : Nat} (h : Full z n) {i k : Nat} (hi : i < n) (hk : k < n) (ho : (z k).toNat < (z i).toNat ∨ ((z k).toNat = (z i).toNat ∧ k < i)) :
    Apt (codeT z n k).toList (codeT z n i).toList := by
  rw [codeT_eq h hi, codeT_eq h hk, ByteArray.toList_eq, ByteArray.toList_eq]
  show Apt (bitsL _ _) (bitsL _ _)
  obtain ⟨a1, a2, a3⟩ := h.rng hi
  obtain ⟨b1, b2, b3⟩ := h.rng hk
  have hp := codeN_part h hi hk ho
  have hlt := codeN_lt h.fit hi (by omega)
  apply bitsL_apt _ _ _ _ (by omega) hlt
  have e : 15 - (z k).toNat = ((z i).toNat - (z k).toNat) + (15 - (z i).toNat) := by omega
  rw [e, Nat.pow_add, ← Nat.mul_assoc] at hp
  have hp2 := Nat.le_of_mul_le_mul_right hp (Nat.two_pow_pos _)
  exact (Nat.le_div_iff_mul_le (Nat.two_pow_pos _)).2 hp2

/-- How many of the first k say yes. -/
def fnd (p : Nat → Bool) : Nat → Nat
  | 0 => 0
  | k + 1 => fnd p k + if p k = true then 1 else 0

theorem fnd_le (p : Nat → Bool) (k : Nat) : fnd p k ≤ k := by
  induction k with
  | zero => simp [fnd]
  | succ k ih => simp only [fnd]; split <;> omega

theorem fnd_one (p : Nat → Bool) (n i : Nat) (hi : i < n) (hp : p i = true) (hu : ∀ k, k < n → p k = true → k = i) : fnd p n = 1 := by
  have h : ∀ k, k ≤ n → fnd p k = if i < k then 1 else 0 := by
    intro k
    induction k with
    | zero => intro _; simp [fnd]
    | succ k ih =>
      intro hk
      simp only [fnd]
      rw [ih (by omega)]
      by_cases e : k = i
      · subst e
        rw [if_neg (by omega), if_pos hp, if_pos (by omega)]
      · have hnp : ¬ p k = true := fun h' => e (hu k (by omega) h')
        rw [if_neg hnp]
        by_cases hlt : i < k
        · rw [if_pos hlt, if_pos (by omega)]
        · rw [if_neg hlt, if_neg (by omega)]
  rw [h n (Nat.le_refl _), if_pos hi]

theorem cntN_at (z : Nat → Int) (l r n : Nat) (h : r < cntN z n l) : ∃ i, i < n ∧ z i = (l : Int) ∧ cntN z i l = r := by
  induction n with
  | zero => simp [cntN] at h
  | succ n ih =>
    by_cases hr : r < cntN z n l
    · obtain ⟨i, h1, h2⟩ := ih hr
      exact ⟨i, by omega, h2⟩
    · simp only [cntN] at h
      by_cases hz : z n = (l : Int)
      · rw [if_pos hz] at h
        exact ⟨n, by omega, hz, by omega⟩
      · rw [if_neg hz] at h
        omega

theorem kr_find (c : Nat → Nat) (N : Nat) : ∀ m, N < kr c m → ∃ q, q < m ∧ kr c q ≤ N ∧ N < kr c (q + 1)
  | 0, h => by simp [kr] at h
  | m + 1, h => by
    by_cases h1 : N < kr c m
    · obtain ⟨q, h2, h3⟩ := kr_find c N m h1
      exact ⟨q, by omega, h3⟩
    · exact ⟨m, by omega, by omega, h⟩

/-- Of fifteen bits just one code is the beginning. -/
theorem one_begins {z : Nat → Int} {n : Nat} (h : Full z n) (N : Nat) (hN : N < 32768) : fnd (fun i => begB (codeT z n i) (bitsB N 15)) n = 1 := by
  have key : ∀ i, i < n → (begB (codeT z n i) (bitsB N 15) = true ↔ codeN z n i = N / 2 ^ (15 - (z i).toNat)) := by
    intro i hi
    obtain ⟨a1, a2, a3⟩ := h.rng hi
    have hlt := codeN_lt h.fit hi (by omega)
    rw [codeT_eq h hi]
    unfold begB
    rw [decide_eq_true_iff]
    exact bitsL_begins _ _ _ _ a2 hlt hN
  obtain ⟨q, hq1, hq2, hq3⟩ := kr_find (cntN z n) N 15 (by rw [h.kr]; exact hN)
  have hk := fi_kr (cntN z n) q hq1
  have hs := kr_succ (cntN z n) q
  have hP := Nat.two_pow_pos (15 - (q + 1))
  have hr : (N - kr (cntN z n) q) / 2 ^ (15 - (q + 1)) < cntN z n (q + 1) := by
    rw [Nat.div_lt_iff_lt_mul hP]; omega
  obtain ⟨i, hi, hzi, hci⟩ := cntN_at z (q + 1) _ n hr
  have hpi : codeN z n i = N / 2 ^ (15 - (z i).toNat) := by
    have e : (z i).toNat = q + 1 := by omega
    unfold codeN
    rw [e, hci]
    have e2 : N = (N - kr (cntN z n) q) + 2 ^ (15 - (q + 1)) * fi (cntN z n) (q + 1) := by
      rw [Nat.mul_comm, hk]; omega
    have e3 : N / 2 ^ (15 - (q + 1)) = (N - kr (cntN z n) q) / 2 ^ (15 - (q + 1)) + fi (cntN z n) (q + 1) := by
      conv => lhs; rw [e2]
      rw [Nat.add_mul_div_left _ _ hP]
    omega
  have hin : ∀ k, k < n → codeN z n k = N / 2 ^ (15 - (z k).toNat) → codeN z n k * 2 ^ (15 - (z k).toNat) ≤ N ∧ N < (codeN z n k + 1) * 2 ^ (15 - (z k).toNat) := by
    intro k _ e
    rw [e]
    have hP := Nat.two_pow_pos (15 - (z k).toNat)
    refine ⟨Nat.div_mul_le_self _ _, ?_⟩
    have h2 := Nat.lt_succ_self (N / 2 ^ (15 - (z k).toNat))
    exact (Nat.div_lt_iff_lt_mul hP).1 h2
  refine fnd_one _ n i hi ((key i hi).2 hpi) (fun k hk' hpk => ?_)
  have hpk' := (key k hk').1 hpk
  have b1 := hin i hi hpi
  have b2 := hin k hk' hpk'
  by_cases e : k = i
  · exact e
  · exfalso
    by_cases o1 : (z k).toNat < (z i).toNat ∨ ((z k).toNat = (z i).toNat ∧ k < i)
    · have := codeN_part h hi hk' o1; omega
    · have := codeN_part h hk' hi (by omega); omega

/-! The sum over the symbols. -/

def wt (v : Int) : Nat := 2 ^ (15 - v.toNat)
def ks (z : Nat → Int) : Nat → Nat
  | 0 => 0
  | k + 1 => ks z k + wt (z k)

theorem ks_succ (z : Nat → Int) (k : Nat) : ks z (k + 1) = ks z k + wt (z k) := rfl

theorem kr_add (c : Nat → Nat) (v : Int) (m : Nat) : kr (fun l => c l + if v = (l : Int) then 1 else 0) m = kr c m + if 1 ≤ v ∧ v ≤ (m : Int) then wt v else 0 := by
  induction m with
  | zero => rw [if_neg (by omega)]; rfl
  | succ m ih =>
    rw [kr_succ, kr_succ, ih]
    by_cases e : v = ((m + 1 : Nat) : Int)
    · rw [if_neg (by omega), if_pos e, if_pos (by omega), Nat.add_mul, Nat.one_mul]
      have : wt v = 2 ^ (15 - (m + 1)) := by unfold wt; rw [e, Int.toNat_natCast]
      omega
    · rw [if_neg e]
      by_cases h1 : 1 ≤ v ∧ v ≤ (m : Int)
      · rw [if_pos h1, if_pos (by omega), Nat.add_zero (c (m + 1))]; omega
      · rw [if_neg h1, if_neg (by omega), Nat.add_zero (c (m + 1))]; omega

theorem kr_ks (z : Nat → Int) (n : Nat) (h : ∀ i, i < n → 1 ≤ z i ∧ z i ≤ 15) : kr (cntN z n) 15 = ks z n := by
  induction n with
  | zero =>
    have : ∀ m, kr (cntN z 0) m = 0 := by
      intro m
      induction m with
      | zero => rfl
      | succ m ih => rw [kr_succ, ih]; simp [cntN]
    exact this 15
  | succ n ih =>
    have e : cntN z (n + 1) = fun l => cntN z n l + if z n = (l : Int) then 1 else 0 := by
      funext l; rfl
    have hn := h n (by omega)
    rw [e, kr_add, ih (fun i hi => h i (by omega)), if_pos ⟨hn.1, hn.2⟩]
    rfl

theorem ks_congr {z y : Nat → Int} (n : Nat) (h : ∀ i, i < n → z i = y i) : ks z n = ks y n := by
  induction n with
  | zero => rfl
  | succ n ih => simp only [ks]; rw [ih (fun i hi => h i (by omega)), h n (by omega)]

theorem ks_set (z : Nat → Int) (k : Nat) (v : Int) (n : Nat) (hk : k < n) : ks (fun i => if i = k then v else z i) n + wt (z k) = ks z n + wt v := by
  induction n with
  | zero => omega
  | succ n ih =>
    simp only [ks]
    by_cases e : k = n
    · subst e
      rw [if_pos rfl, ks_congr (y := z) k (fun i hi => by rw [if_neg (by omega)])]
      omega
    · have := ih (by omega)
      rw [if_neg (fun h => e h.symm)]
      omega

theorem ks_shift (z : Nat → Int) (n : Nat) : ks z (n + 1) = wt (z 0) + ks (fun i => z (i + 1)) n := by
  induction n with
  | zero => simp [ks]
  | succ n ih =>
    have e : ks z (n + 1 + 1) = ks z (n + 1) + wt (z (n + 1)) := rfl
    rw [e, ih]
    simp only [ks]
    omega

theorem fit_of_ks {z : Nat → Int} {n : Nat} (hn : n ≤ 288) (h : ∀ i, i < n → 1 ≤ z i ∧ z i ≤ 15) : fitB z n = decide (ks z n = 32768) := by
  have ho : okB z n = true := okB_yes hn (fun i hi => ⟨by have := h i hi; omega, (h i hi).2⟩)
  unfold fitB
  rw [ho, kr_ks z n h, Bool.true_and]

/-- What the tree's lengths are. -/
structure Grows (z : Nat → Int) (n : Nat) : Prop where
  two : 2 ≤ n
  rng : ∀ i, i < n → 1 ≤ z i ∧ z i ≤ 15
  sum : ks z n = 32768

theorem Grows.full {z : Nat → Int} {n : Nat} (h : Grows z n) (hn : n ≤ 288) : Full z n :=
  ⟨by rw [fit_of_ks hn h.rng, h.sum]; rfl, fun i hi => (h.rng i hi).1⟩

theorem Grows.start : Grows (fun _ => 1) 2 := ⟨by omega, fun _ _ => by omega, by decide⟩

theorem Grows.congr {z y : Nat → Int} {n : Nat} (h : Grows z n) (e : ∀ i, i < n → z i = y i) : Grows y n :=
  ⟨h.two, fun i hi => by rw [← e i hi]; exact h.rng i hi, by rw [← ks_congr n e]; exact h.sum⟩

theorem Grows.split {z : Nat → Int} {n k : Nat} (h : Grows z n) (hk : k < n) (hz : z k < 15) :
    Grows (fun i => if i = n then z k + 1 else if i = k then z k + 1 else z i) (n + 1) := by
  refine ⟨by have := h.two; omega, fun i hi => ?_, ?_⟩
  · have hk' := h.rng k hk
    by_cases e : i = n
    · rw [if_pos e]; omega
    · rw [if_neg e]
      by_cases e2 : i = k
      · rw [if_pos e2]; omega
      · rw [if_neg e2]; exact h.rng i (by omega)
  · have h1 := ks_set z k (z k + 1) n hk
    have hk' := h.rng k hk
    have e : wt (z k) = wt (z k + 1) + wt (z k + 1) := by
      unfold wt
      have e1 : (z k + 1).toNat = (z k).toNat + 1 := by omega
      have e2 : 15 - (z k).toNat = (15 - ((z k).toNat + 1)) + 1 := by omega
      rw [e1, e2, Nat.pow_succ]; omega
    have hs := h.sum
    rw [ks_succ, if_pos rfl, ks_congr (y := fun i => if i = k then z k + 1 else z i) n (fun i hi => by rw [if_neg (by omega)])]
    omega

theorem Grows.more {z : Nat → Int} {n : Nat} (h : Grows z n) (hn : n < 288) : fitB (fun i => if i = n then 15 else z i) (n + 1) = false := by
  rw [fit_of_ks (by omega) (fun i hi => ?_)]
  · rw [decide_eq_false_iff_not]
    rw [ks_succ, if_pos rfl, ks_congr (y := z) n (fun i hi => by rw [if_neg (by omega)]), h.sum]
    decide
  · by_cases e : i = n
    · rw [if_pos e]; omega
    · rw [if_neg e]; exact h.rng i (by omega)

theorem Grows.other {z : Nat → Int} {n : Nat} (h : Grows z n) (hn : n < 288) (h0 : z 0 ≠ 15) : fitB (fun i => if i + 1 = n then 15 else z (i + 1)) n = false := by
  have h2 := h.two
  have r0 := h.rng 0 (by omega)
  rw [fit_of_ks (by omega) (fun i hi => ?_)]
  · rw [decide_eq_false_iff_not]
    have e1 := ks_shift (fun i => if i = n then 15 else z i) n
    have e2 : ks (fun i => if i = n then 15 else z i) (n + 1) = 32769 := by
      rw [ks_succ, if_pos rfl, ks_congr (y := z) n (fun i hi => by rw [if_neg (by omega)]), h.sum]
      rfl
    rw [e2, if_neg (by omega)] at e1
    intro h3
    have h4 : wt (z 0) = 1 := by omega
    unfold wt at h4
    have h5 := Nat.pow_eq_one.1 h4
    omega
  · by_cases e : i + 1 = n
    · rw [if_pos e]; omega
    · rw [if_neg e]; exact h.rng (i + 1) (by omega)

end Go.Proofs.YtecddphahiadlaaGreatDoor
