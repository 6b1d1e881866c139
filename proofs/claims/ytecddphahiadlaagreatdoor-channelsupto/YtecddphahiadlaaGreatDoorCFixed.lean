import Derived.Test.YtecddphahiadlaaGreatDoorCApp
import Derived.Laws.OwnMore
/- Numbers as rows of noughts and ones: plain facts. -/
namespace Go.Proofs.YtecddphahiadlaaGreatDoor
open Go.RowKit
theorem bitsL_succ (x m : Nat) : bitsL x (m + 1) = bitsL (x / 2) m ++ [UInt8.ofNat (48 + x % 2)] := by
 unfold bitsL
 rw [List.range_succ, List.map_append]
 congr 1
 ·
  apply List.map_congr_left
  intro i hi
  have hi' : i < m := List.mem_range.1 hi
  unfold bitAt
  have e : m + 1 - 1 - i = (m - 1 - i) + 1 := by omega
  rw [e, Nat.pow_succ, Nat.mul_comm, Nat.div_div_eq_div_mul]
 · simp [bitAt]
theorem bitsL_zero (x : Nat) : bitsL x 0 = [] := rfl
theorem letter_inj {a b : Nat} (ha : a < 2) (hb : b < 2) (h : UInt8.ofNat (48 + a) = UInt8.ofNat (48 + b)) : a = b := by
 have := congrArg UInt8.toNat h
 simp only [UInt8.toNat_ofNat'] at this
 omega
theorem letter_lt {a b : Nat} (ha : a < b) (hb : b < 2) : UInt8.ofNat (48 + a) < UInt8.ofNat (48 + b) := by
 rw [UInt8.lt_iff_toNat_lt]
 simp only [UInt8.toNat_ofNat']
 omega
theorem bitsL_inj : ∀ (m x y : Nat), x < 2 ^ m → y < 2 ^ m → bitsL x m = bitsL y m → x = y
 | 0, x, y, hx, hy, _ => by simp at hx hy; omega
 |
  m + 1, x, y, hx, hy, h => by
  rw [bitsL_succ, bitsL_succ] at h
  have hl : (bitsL (x / 2) m).length = (bitsL (y / 2) m).length := by rw [bitsL_length, bitsL_length]
  obtain ⟨h1, h2⟩ := List.append_inj h hl
  rw [Nat.pow_succ] at hx hy
  have i1 := bitsL_inj m (x / 2) (y / 2) (by omega) (by omega) h1
  have i2 := letter_inj (by omega) (by omega) (List.singleton_inj.1 h2)
  omega
theorem bitsL_take (x m p : Nat) (h : m ≤ p) : (bitsL x p).take m = bitsL (x / 2 ^ (p - m)) m := by
 induction p generalizing x with
 | zero =>
  obtain rfl : m = 0 := by omega
  simp [bitsL_zero]
 |
  succ p ih =>
  by_cases e : m = p + 1
  ·
   subst e
   rw [List.take_of_length_le (by rw [bitsL_length]; omega)]
   simp
  ·
   rw [bitsL_succ, List.take_append_of_le_length (by rw [bitsL_length]; omega), ih _ (by omega)]
   have e2 : p + 1 - m = (p - m) + 1 := by omega
   rw [e2, Nat.pow_succ, Nat.mul_comm, Nat.div_div_eq_div_mul]
theorem less_append : ∀ (a b c d : List UInt8), a.length = b.length → Op.bytesLess a b = true → Op.bytesLess (a ++ c) (b ++ d) = true
 | [], [], _, _, _, h => by simp [Op.bytesLess] at h
 | [], _ :: _, _, _, h, _ => by simp at h
 | _ :: _, [], _, _, h, _ => by simp at h
 |
  x :: a, y :: b, c, d, hl, h => by
  simp only [List.cons_append, Op.bytesLess, Bool.or_eq_true, Bool.and_eq_true] at h ⊢
  rcases h with h | ⟨h1, h2⟩
  · exact Or.inl h
  · exact Or.inr ⟨h1, less_append a b c d (by simpa using hl) h2⟩
theorem less_last : ∀ (a : List UInt8) (c d : UInt8), c < d → Op.bytesLess (a ++ [c]) (a ++ [d]) = true
 | [], c, d, h => by simp [Op.bytesLess, h]
 |
  x :: a, c, d, h => by
  simp only [List.cons_append, Op.bytesLess, Bool.or_eq_true, Bool.and_eq_true]
  exact Or.inr ⟨by simp, less_last a c d h⟩
theorem bitsL_less : ∀ (m x y : Nat), x < y → y < 2 ^ m → Op.bytesLess (bitsL x m) (bitsL y m) = true
 | 0, x, y, h, hy => by simp at hy; omega
 |
  m + 1, x, y, h, hy => by
  rw [bitsL_succ, bitsL_succ]
  rw [Nat.pow_succ] at hy
  by_cases e : x / 2 = y / 2
  ·
   rw [e]
   exact less_last _ _ _ (letter_lt (by omega) (by omega))
  · exact less_append _ _ _ _ (by rw [bitsL_length, bitsL_length]) (bitsL_less m (x / 2) (y / 2) (by omega) (by omega))
/-- A shorter (or as long) code whose number is less than the other's beginning: it is less, and neither begins the other. -/
structure Apt (a b : List UInt8) : Prop where
 less : Op.bytesLess a b = true
 not1 : ¬ a <+: b
 not2 : ¬ b <+: a
theorem bitsL_apt (x y m p : Nat) (hm : m ≤ p) (hy : y < 2 ^ p) (h : x < y / 2 ^ (p - m)) : Apt (bitsL x m) (bitsL y p) := by
 have hpw : 2 ^ p = 2 ^ m * 2 ^ (p - m) := by rw [← Nat.pow_add]; congr 1; omega
 have hy' : y / 2 ^ (p - m) < 2 ^ m := by
  rw [Nat.div_lt_iff_lt_mul (Nat.two_pow_pos _), ← hpw]; exact hy
 have ht := bitsL_take y m p hm
 have hne : bitsL x m ≠ bitsL (y / 2 ^ (p - m)) m := fun e => by
  have := bitsL_inj m _ _ (by omega) hy' e
  omega
 have hn1 : ¬ bitsL x m <+: bitsL y p := fun hp => by
  rw [List.prefix_iff_eq_take, bitsL_length, ht] at hp
  exact hne hp
 refine ⟨?_, hn1, fun hp => ?_⟩
 ·
  have h1 := less_append (bitsL x m) (bitsL (y / 2 ^ (p - m)) m) [] ((bitsL y p).drop m) (by rw [bitsL_length, bitsL_length]) (bitsL_less m _ _ h hy')
  rw [List.append_nil, ← ht, List.take_append_drop] at h1
  exact h1
 ·
  have hl := hp.length_le
  rw [bitsL_length, bitsL_length] at hl
  have e := hp.eq_of_length (by rw [bitsL_length, bitsL_length]; omega)
  rw [← e] at hn1
  exact hn1 (List.prefix_refl _)
theorem bitsB_size (x m : Nat) : (bitsB x m).size = m := by
 show (bitsL x m).toArray.size = m
 simp [bitsL_length]
theorem div_mod_bit (N a b : Nat) (h : b < a) : N % 2 ^ a / 2 ^ b % 2 = N / 2 ^ b % 2 := by
 have h1 := Nat.testBit_mod_two_pow N a b
 rw [Nat.testBit_eq_decide_div_mod_eq, Nat.testBit_eq_decide_div_mod_eq, decide_eq_true h, Bool.true_and, decide_eq_decide] at h1
 omega
theorem bitsL_cons (N j : Nat) : bitsL (N % 2 ^ (j + 1)) (j + 1) = UInt8.ofNat (48 + N / 2 ^ j % 2) :: bitsL (N % 2 ^ j) j := by
 unfold bitsL
 rw [List.range_succ_eq_map, List.map_cons, List.map_map]
 congr 1
 ·
  unfold bitAt
  rw [div_mod_bit _ _ _ (by omega)]
  simp
 ·
  apply List.map_congr_left
  intro i hi
  have hi' : i < j := List.mem_range.1 hi
  simp only [Function.comp, bitAt]
  rw [div_mod_bit _ _ _ (by omega), div_mod_bit _ _ _ (by omega)]
  have e : j + 1 - 1 - (i + 1) = j - 1 - i := by omega
  simp only [Nat.succ_eq_add_one, e]
theorem row_step (N j Nj : Nat) (h : Nj = N / 2 ^ j) : (⟨#[48, 49]⟩ : ByteArray).extract (Nj % 2) (Nj % 2 + 1) ++ bitsB (N % 2 ^ j) j = bitsB (N % 2 ^ (j + 1)) (j + 1) := by
 have h1 : (⟨#[48, 49]⟩ : ByteArray).extract (Nj % 2) (Nj % 2 + 1) = ⟨#[UInt8.ofNat (48 + N / 2 ^ j % 2)]⟩ := by
  rw [← h]
  rcases Nat.mod_two_eq_zero_or_one Nj with e | e
  · rw [e]; decide
  · rw [e]; decide
 rw [h1]
 apply ByteArray.ext
 rw [ByteArray.data_append]
 show #[UInt8.ofNat (48 + N / 2 ^ j % 2)] ++ (bitsL (N % 2 ^ j) j).toArray = (bitsL (N % 2 ^ (j + 1)) (j + 1)).toArray
 rw [bitsL_cons]
 simp
/- Lengths that fit fill all rows of bits, and codes rise: plain facts. -/
/-- Lengths that fit, each of them 1 to 15. -/
structure Full (z : Nat → Int) (n : Nat) : Prop where
 fit : fitB z n = true
 low : ∀ i, i < n → 1 ≤ z i
theorem Full.rng {z : Nat → Int} {n i : Nat} (h : Full z n) (hi : i < n) : 1 ≤ (z i).toNat ∧ (z i).toNat ≤ 15 ∧ z i = ((z i).toNat : Int) := by
 have := h.fit
 simp only [fitB, Bool.and_eq_true] at this
 have h1 := ((okB_iff z n).1 this.1).2 i hi
 have h2 := h.low i hi
 omega
theorem codeN_part {z : Nat → Int} {n : Nat} (h : Full z n) {i k : Nat} (hi : i < n) (hk : k < n) (ho : (z k).toNat < (z i).toNat ∨ ((z k).toNat = (z i).toNat ∧ k < i)) :
 (codeN z n k + 1) * 2 ^ (15 - (z k).toNat) ≤ codeN z n i * 2 ^ (15 - (z i).toNat) := by
 obtain ⟨a1, a2, a3⟩ := h.rng hi
 obtain ⟨b1, b2, b3⟩ := h.rng hk
 rcases ho with ho | ⟨ho, hki⟩
 ·
  obtain ⟨q, hq⟩ : ∃ q, (z k).toNat = q + 1 := ⟨(z k).toNat - 1, by omega⟩
  obtain ⟨p, hp⟩ : ∃ p, (z i).toNat = p + 1 := ⟨(z i).toNat - 1, by omega⟩
  have h1 := cntN_lt z (m := (z k).toNat) hk b3
  have e1 : codeN z n k + 1 ≤ fi (cntN z n) (q + 1) + cntN z n (q + 1) := by
   unfold codeN; rw [hq] at h1 ⊢; omega
  have h2 := Nat.mul_le_mul_right (2 ^ (15 - (q + 1))) e1
  rw [Nat.add_mul (fi (cntN z n) (q + 1)), fi_kr _ q (by omega), ← kr_succ] at h2
  have h3 := kr_mono (cntN z n) (show q + 1 ≤ p by omega)
  rw [← fi_kr (cntN z n) p (by omega)] at h3
  have h4 : fi (cntN z n) (p + 1) ≤ codeN z n i := by
   unfold codeN; rw [hp]; omega
  have h5 := Nat.mul_le_mul_right (2 ^ (15 - (p + 1))) h4
  rw [hq, hp]
  omega
 ·
  rw [ho]
  apply Nat.mul_le_mul_right
  have h1 := cntN_lt z (m := (z k).toNat) hki b3
  unfold codeN
  rw [ho] at h1 ⊢
  omega
theorem codeT_eq {z : Nat → Int} {n : Nat} (h : Full z n) {i : Nat} (hi : i < n) : codeT z n i = bitsB (codeN z n i) (z i).toNat := by
 have := h.low i hi
 unfold codeT
 rw [if_neg (by omega)]
theorem codes_apt {z : Nat → Int} {n : Nat} (h : Full z n) {i k : Nat} (hi : i < n) (hk : k < n) (ho : (z k).toNat < (z i).toNat ∨ ((z k).toNat = (z i).toNat ∧ k < i)) :
 Apt (codeT z n k).toList (codeT z n i).toList := by
 rw [codeT_eq h hi, codeT_eq h hk, ByteArray.toList_eq, ByteArray.toList_eq]
 show Apt (bitsL _ _) (bitsL _ _)
 obtain ⟨a1, a2, a3⟩ := h.rng hi
 obtain ⟨b1, b2, b3⟩ := h.rng hk
 have hp := codeN_part h hi hk ho
 have hlt := codeN_lt h.fit hi (by omega)
 apply bitsL_apt _ _ _ _ (by omega) hlt
 have e : 15 - (z k).toNat = ((z i).toNat - (z k).toNat) + (15 - (z i).toNat) := by omega
 rw [e, Nat.pow_add, ← Nat.mul_assoc] at hp
 have hp2 := Nat.le_of_mul_le_mul_right hp (Nat.two_pow_pos _)
 exact (Nat.le_div_iff_mul_le (Nat.two_pow_pos _)).2 hp2
theorem cntN_at (z : Nat → Int) (l r n : Nat) (h : r < cntN z n l) : ∃ i, i < n ∧ z i = (l : Int) ∧ cntN z i l = r := by
 induction n with
 | zero => simp [cntN] at h
 |
  succ n ih =>
  by_cases hr : r < cntN z n l
  ·
   obtain ⟨i, h1, h2⟩ := ih hr
   exact ⟨i, by omega, h2⟩
  ·
   simp only [cntN] at h
   by_cases hz : z n = (l : Int)
   ·
    rw [if_pos hz] at h
    exact ⟨n, by omega, hz, by omega⟩
   ·
    rw [if_neg hz] at h
    omega
theorem kr_find (c : Nat → Nat) (N : Nat) : ∀ m, N < kr c m → ∃ q, q < m ∧ kr c q ≤ N ∧ N < kr c (q + 1)
 | 0, h => by simp [kr] at h
 |
  m + 1, h => by
  by_cases h1 : N < kr c m
  ·
   obtain ⟨q, h2, h3⟩ := kr_find c N m h1
   exact ⟨q, by omega, h3⟩
  · exact ⟨m, by omega, by omega, h⟩
/-! The sum over the symbols. -/
def wt (v : Int) : Nat := 2 ^ (15 - v.toNat)
def ks (z : Nat → Int) : Nat → Nat
 | 0 => 0
 | k + 1 => ks z k + wt (z k)
theorem kr_add (c : Nat → Nat) (v : Int) (m : Nat) : kr (fun l => c l + if v = (l : Int) then 1 else 0) m = kr c m + if 1 ≤ v ∧ v ≤ (m : Int) then wt v else 0 := by
 induction m with
 | zero => rw [if_neg (by omega)]; rfl
 |
  succ m ih =>
  rw [kr_succ, kr_succ, ih]
  by_cases e : v = ((m + 1 : Nat) : Int)
  ·
   rw [if_neg (by omega), if_pos e, if_pos (by omega), Nat.add_mul, Nat.one_mul]
   have : wt v = 2 ^ (15 - (m + 1)) := by unfold wt; rw [e, Int.toNat_natCast]
   omega
  ·
   rw [if_neg e]
   by_cases h1 : 1 ≤ v ∧ v ≤ (m : Int)
   · rw [if_pos h1, if_pos (by omega), Nat.add_zero (c (m + 1))]; omega
   · rw [if_neg h1, if_neg (by omega), Nat.add_zero (c (m + 1))]; omega
theorem kr_ks (z : Nat → Int) (n : Nat) (h : ∀ i, i < n → 1 ≤ z i ∧ z i ≤ 15) : kr (cntN z n) 15 = ks z n := by
 induction n with
 |
  zero =>
  have : ∀ m, kr (cntN z 0) m = 0 := by
   intro m
   induction m with
   | zero => rfl
   | succ m ih => rw [kr_succ, ih]; simp [cntN]
  exact this 15
 |
  succ n ih =>
  have e : cntN z (n + 1) = fun l => cntN z n l + if z n = (l : Int) then 1 else 0 := by
   funext l; rfl
  have hn := h n (by omega)
  rw [e, kr_add, ih (fun i hi => h i (by omega)), if_pos ⟨hn.1, hn.2⟩]
  rfl
theorem fit_of_ks {z : Nat → Int} {n : Nat} (hn : n ≤ 288) (h : ∀ i, i < n → 1 ≤ z i ∧ z i ≤ 15) : fitB z n = decide (ks z n = 32768) := by
 have ho : okB z n = true := okB_yes hn (fun i hi => ⟨by have := h i hi; omega, (h i hi).2⟩)
 unfold fitB
 rw [ho, kr_ks z n h, Bool.true_and]
/- Contracts of the reference's small functions: text, part, left. -/
set_option maxHeartbeats 400000 in
theorem rtext_any (x m : Nat) (w : World) (hx : x < 2 ^ m) (hm : m ≤ 15) :
 Calls Tryz.prog 128 #[.int .i64 x, .int .i64 m] w fun e w' => e = .returned (.string (bitsB x m)) ∧ w' = w := by
 have h15 : 2 ^ m ≤ 2 ^ 15 := Nat.pow_le_pow_right (by omega) hm
 have h15' : (2 : Nat) ^ 15 = 32768 := rfl
 have hx15 : x < 32768 := by omega
 have HX : Hid (x % 2 ^ m = x) := Nat.mod_eq_of_lt hx
 clear h15 h15' hx
 go_enter Tryz.func128, Tryz.ntmps128
 go_wp2
 go_loop [0, 1, 5] (fun nn i row => ∃ j : Nat, j ≤ m ∧ i = .int .i64 (m - j : Nat) ∧ nn = .int .i64 (x / 2 ^ j : Nat) ∧ row = .string (bitsB (x % 2 ^ j) j)) (fun _ i _ => (intOf i).toNat)
 case atStart => exact ⟨0, by omega, by simp, by simp, by simp [bitsB, bitsL]⟩
 case round =>
  obtain ⟨j, hj, rfl, rfl, rfl⟩ := hrel
  have hNj : x / 2 ^ j ≤ x := Nat.div_le_self _ _
  obtain ⟨Nj, hNj'⟩ : ∃ Nj, Nj = x / 2 ^ j := ⟨_, rfl⟩
  rw [← hNj'] at hNj ⊢
  have HN : Hid (Nj = x / 2 ^ j) := hNj'
  clear hNj'
  obtain ⟨r, hr⟩ : ∃ r, r = m - j := ⟨_, rfl⟩
  rw [← hr]
  by_cases hlt : j < m
  ·
   have hs15 := bitsB_size (x % 2 ^ j) j
   have hs16 : (bitsB (x % 2 ^ j) j).size ≤ 15 := by omega
   clear hs15
   have HR : Hid (_) := row_step x j Nj HN.out
   have HQ : Nj / 2 = x / 2 ^ (j + 1) := by rw [HN.out, Nat.pow_succ, Nat.div_div_eq_div_mul]
   have HQ' : Hid (Nj / 2 = x / 2 ^ (j + 1)) := HQ
   have h1 : 1 ≤ r := by omega
   have h2 : r ≤ 15 := by omega
   have HRR : Hid (r = m - j) := hr
   clear HQ hr
   go_wp2
   go_round
   case rel => exact ⟨j + 1, by omega, by have := HRR.out; go_num, by rw [← HQ'.out]; go_num, congrArg Value.string HR.out⟩
   case measure => simp [intOf]; omega
  ·
   obtain rfl : j = m := by omega
   obtain rfl : r = 0 := by omega
   clear hr
   rw [HX.out]
   go_wp2
   go_ret
   exact ⟨rfl, rfl⟩
set_option maxHeartbeats 400000 in
theorem rpart_any (m : Nat) (w : World) (hm : m ≤ 15) :
 Calls Tryz.prog 131 #[.int .i64 m] w fun e w' => e = .returned (.int .i64 (2 ^ (15 - m) : Nat)) ∧ w' = w := by
 go_enter Tryz.func131, Tryz.ntmps131
 go_wp2
 go_loop [0, 3] (fun i p => ∃ j : Nat, j ≤ m ∧ i = .int .i64 (m - j : Nat) ∧ p = .int .i64 (2 ^ (15 - j) : Nat)) (fun i _ => (intOf i).toNat)
 case atStart => exact ⟨0, by omega, by simp, rfl⟩
 case round =>
  obtain ⟨j, hj, rfl, rfl⟩ := hrel
  obtain ⟨r, hr⟩ : ∃ r, r = m - j := ⟨_, rfl⟩
  obtain ⟨P, hP⟩ : ∃ P, P = 2 ^ (15 - j) := ⟨_, rfl⟩
  have hPb := pow_le_15 j
  rw [← hr, ← hP]
  rw [← hP] at hPb
  by_cases hlt : j < m
  ·
   have h1 : 1 ≤ r := by omega
   have h2 : r ≤ 15 := by omega
   have HRR : Hid (r = m - j) := hr
   have HP : Hid (P / 2 = 2 ^ (15 - (j + 1))) := by
    show P / 2 = 2 ^ (15 - (j + 1))
    rw [hP, show 15 - j = (15 - (j + 1)) + 1 from by omega, Nat.pow_succ]
    omega
   clear hr hP
   go_wp2
   go_round
   case rel => exact ⟨j + 1, by omega, by have := HRR.out; go_num, by rw [← HP.out]; go_num⟩
   case measure => simp [intOf]; omega
  ·
   obtain rfl : j = m := by omega
   obtain rfl : r = 0 := by omega
   subst hP
   clear hr
   go_wp2
   go_ret
   exact ⟨rfl, rfl⟩
/-- What lengths take of 1, noughts passed over. -/
def ks0 (z : Nat → Int) : Nat → Nat
 | 0 => 0
 | k + 1 => ks0 z k + if 0 < z k then wt (z k) else 0
theorem kr_ks0 (z : Nat → Int) (n : Nat) (h : ∀ i, i < n → 0 ≤ z i ∧ z i ≤ 15) : kr (cntN z n) 15 = ks0 z n := by
 induction n with
 | zero => exact kr_ks z 0 (fun i hi => absurd hi (by omega))
 |
  succ n ih =>
  have e : cntN z (n + 1) = fun l => cntN z n l + if z n = (l : Int) then 1 else 0 := by
   funext l; rfl
  have hn := h n (by omega)
  rw [e, kr_add, ih (fun i hi => h i (by omega))]
  simp only [ks0]
  by_cases h0 : 0 < z n
  · rw [if_pos h0, if_pos (by omega)]
  · rw [if_neg h0, if_neg (by omega)]
theorem wt_le (v : Int) : wt v ≤ 32768 := pow_le_15 _
theorem ks0_leC (C : Nat) (h : ∀ v, wt v ≤ C) (z : Nat → Int) (n : Nat) : ks0 z n ≤ n * C := by
 induction n with
 | zero => simp [ks0]
 |
  succ n ih =>
  have h1 := h (z n)
  rw [Nat.succ_mul]
  simp only [ks0]
  by_cases h0 : 0 < z n
  · simp only [if_pos h0]; omega
  · simp only [if_neg h0]; omega
theorem ks0_le (z : Nat → Int) (n : Nat) : ks0 z n ≤ n * 32768 := ks0_leC 32768 wt_le z n
set_option maxHeartbeats 400000 in
theorem rleft_any (b off n cap : Nat) (z : Nat → Int) (w : World) (hz : IntsAt w b off n z) (hn : n ≤ 1048576) (hr : ∀ i, i < n → 0 ≤ z i ∧ z i ≤ 15) :
 Calls Tryz.prog 114 #[.slice (some ⟨b, off, none⟩) n cap] w fun e w' => e = .returned (.int .i64 (32768 - (ks0 z n : Nat))) ∧ w' = w := by
 go_enter Tryz.func114, Tryz.ntmps114
 go_wp2
 go_loop [3, 4] (fun p i => ∃ k : Nat, k ≤ n ∧ i = .int .i64 k ∧ p = .int .i64 (32768 - (ks0 z k : Nat))) (fun _ i => n - (intOf i).toNat)
 case atStart => exact ⟨0, by omega, rfl, by simp [ks0]⟩
 case round =>
  obtain ⟨k, hk, rfl, rfl⟩ := hrel
  by_cases hlt : k < n
  ·
   have hc := hz.cell k hlt
   have hr1 := hr k hlt
   obtain ⟨m, hm⟩ := Int.eq_ofNat_of_zero_le hr1.1
   rw [hm] at hc hr1
   have hkl := ks0_le z k
   have hw := wt_le (z k)
   by_cases h0 : m = 0
   ·
    subst h0
    have HK : Hid (ks0 z (k + 1) = ks0 z k) := by show ks0 z (k + 1) = ks0 z k; simp only [ks0, hm]; simp
    clear hm
    go_wp2
    go_round
    case rel => exact ⟨k + 1, by omega, by go_num, by rw [HK.out]⟩
    case measure => simp [intOf]; omega
   ·
    have hp : 0 < (m : Int) := by omega
    have HK : Hid (ks0 z (k + 1) = ks0 z k + 2 ^ (15 - m)) := by
     show ks0 z (k + 1) = ks0 z k + 2 ^ (15 - m)
     simp only [ks0, hm, wt, Int.toNat_natCast]
     rw [if_pos hp]
    have hPb := pow_le_15 m
    clear hm hw
    go_wp2_with fail
    refine (rpart_any m _ (by omega)).mono ?_
    rintro e w' ⟨rfl, rfl⟩
    obtain ⟨P, hP⟩ : ∃ P, P = 2 ^ (15 - m) := ⟨_, rfl⟩
    rw [← hP] at hPb ⊢
    have HP : Hid (P = 2 ^ (15 - m)) := hP
    clear hP
    go_wp2
    go_round
    case rel => exact ⟨k + 1, by omega, by go_num, by rw [HK.out, ← HP.out]; go_num⟩
    case measure => simp [intOf]; omega
  ·
   obtain rfl : k = n := by omega
   go_wp2
   go_ret
   exact ⟨rfl, rfl⟩
/- The contract of the reference's codes. -/
theorem fi_topL (c : Nat → Nat) (m : Nat) (h1 : 1 ≤ m) (h2 : m ≤ 15) (hk : kr c 15 ≤ 32768) : fi c m + c m ≤ 2 ^ m := by
 obtain ⟨q, rfl⟩ : ∃ q, m = q + 1 := ⟨m - 1, by omega⟩
 have h := fi_kr c q (by omega)
 have h3 := kr_succ c q
 have h4 := Nat.le_trans (kr_mono c (show q + 1 ≤ 15 by omega)) hk
 rw [h3, ← h, ← Nat.add_mul] at h4
 have e : (32768 : Nat) = 2 ^ (q + 1) * 2 ^ (15 - (q + 1)) := by
  rw [← Nat.pow_add, show q + 1 + (15 - (q + 1)) = 15 from by omega]
 rw [e] at h4
 exact Nat.le_of_mul_le_mul_right h4 (Nat.two_pow_pos _)
/-- The number behind all codes of at most q letters. -/
def nxt (c : Nat → Nat) (q : Nat) : Nat := if q = 0 then 0 else fi c q + c q
theorem nxt_two (c : Nat → Nat) (q : Nat) : nxt c q * 2 = fi c (q + 1) := by
 unfold nxt
 match q with
 | 0 => simp [fi]
 | q + 1 => rw [if_neg (by omega)]; simp only [fi]
theorem nxt_le (c : Nat → Nat) (q : Nat) (hq : q ≤ 15) (hk : kr c 15 ≤ 32768) : nxt c q ≤ 32768 := by
 unfold nxt
 by_cases h0 : q = 0
 · rw [if_pos h0]; omega
 ·
  rw [if_neg h0]
  have h1 := fi_topL c q (by omega) hq hk
  have h3 : 2 ^ q ≤ 2 ^ 15 := Nat.pow_le_pow_right (by omega) (by omega)
  have h4 : (2 : Nat) ^ 15 = 32768 := rfl
  omega
structure RCRel (w wr : World) (z : Nat → Int) (n g q k : Nat) : Prop where
 below : Below w.heap.size w wr
 le : w.heap.size ≤ g
 row : wr.rowIs g 9 n (fun i => .string (if (1 ≤ z i ∧ z i ≤ (q : Int)) ∨ (z i = (q : Int) + 1 ∧ i < k) then codeT z n i else .empty))
theorem rc_start (w : World) (z : Nat → Int) (n : Nat) : RCRel w (w.alloc (.cells (madeCells #[.string .empty] n) 9)) z n w.heap.size 0 0 := by
 refine ⟨(Below.refl _ _).alloc (Nat.le_refl _) _, Nat.le_refl _, (World.rowIs_made w (.string .empty) n 9).congr (fun i _ => ?_)⟩
 rw [if_neg (by omega)]
theorem rc_next {w wr : World} {z : Nat → Int} {n g q : Nat} (h : RCRel w wr z n g q n) : RCRel w wr z n g (q + 1) 0 := by
 refine ⟨h.below, h.le, h.row.congr (fun i hi => ?_)⟩
 by_cases e : (1 ≤ z i ∧ z i ≤ (q : Int)) ∨ (z i = (q : Int) + 1 ∧ i < n)
 · rw [if_pos e, if_pos (by omega)]
 · rw [if_neg e, if_neg (by omega)]
theorem rc_pass {w wr : World} {z : Nat → Int} {n g q k : Nat} (h : RCRel w wr z n g q k) (hz : z k ≠ (q : Int) + 1) : RCRel w wr z n g q (k + 1) := by
 refine ⟨h.below, h.le, h.row.congr (fun i hi => ?_)⟩
 by_cases e : (1 ≤ z i ∧ z i ≤ (q : Int)) ∨ (z i = (q : Int) + 1 ∧ i < k)
 · rw [if_pos e, if_pos (by omega)]
 ·
  rw [if_neg e, if_neg]
  rintro (h1 | ⟨h1, h2⟩)
  · exact e (Or.inl h1)
  ·
   by_cases e2 : i = k
   · subst e2; exact hz h1
   · exact e (Or.inr ⟨h1, by omega⟩)
theorem rc_step {w wr : World} {z : Nat → Int} {n g q k p : Nat} (h : RCRel w wr z n g q k) (hz : z k = (q : Int) + 1) (hp : p = fi (cntN z n) (q + 1) + cntN z k (q + 1)) :
 RCRel w (wr.setCell ⟨g, k, none⟩ (.string (bitsB p (q + 1)))) z n g q (k + 1) := by
 refine ⟨h.below.setCell h.le _, h.le, (h.row.set k _).congr (fun i hi => ?_)⟩
 by_cases e2 : i = k
 ·
  subst e2
  rw [if_pos rfl, if_pos (by omega)]
  have e3 : (z i).toNat = q + 1 := by omega
  unfold codeT codeN
  rw [if_neg (by omega), e3, hp]
 ·
  rw [if_neg e2]
  by_cases e : (1 ≤ z i ∧ z i ≤ (q : Int)) ∨ (z i = (q : Int) + 1 ∧ i < k)
  · rw [if_pos e, if_pos (by omega)]
  · rw [if_neg e, if_neg (by omega)]
theorem rc_end {w wr : World} {z : Nat → Int} {n g : Nat} (h : RCRel w wr z n g 15 0) (hr : ∀ i, i < n → 0 ≤ z i ∧ z i ≤ 15) : wr.rowIs g 9 n (fun i => .string (codeT z n i)) := by
 refine h.row.congr (fun i hi => ?_)
 have := hr i hi
 by_cases e : (1 ≤ z i ∧ z i ≤ ((15 : Nat) : Int)) ∨ (z i = ((15 : Nat) : Int) + 1 ∧ i < 0)
 · rw [if_pos e]
 ·
  rw [if_neg e]
  unfold codeT
  rw [if_pos (by omega)]
set_option maxHeartbeats 400000 in
theorem rcodes_any (b off n cap : Nat) (z : Nat → Int) (w : World) (hz : IntsAt w b off n z) (hn : n ≤ 288) (hr : ∀ i, i < n → 0 ≤ z i ∧ z i ≤ 15) (hk : kr (cntN z n) 15 ≤ 32768) :
 Calls Tryz.prog 110 #[.slice (some ⟨b, off, none⟩) n cap] w fun e w' => e = .returned (.slice (some ⟨w.heap.size, 0, none⟩) n n) ∧ w'.rowIs w.heap.size 9 n (fun i => .string (codeT z n i)) ∧ Below w.heap.size w w' := by
 have hmk := run_make_row' (P := Tryz.prog) 56 9 (.string .empty) 16 Tryz.underlying56 Tryz.info9 rfl .i64 .i64 n (by omega) (by omega)
 have RS := rc_start w z n
 go_enter Tryz.func110, Tryz.ntmps110
 go_wp2
 go_loopw [4, 5] (fun x l wr => ∃ q : Nat, q ≤ 15 ∧ l = .int .i64 (q + 1 : Nat) ∧ x = .int .i64 (nxt (cntN z n) q : Nat) ∧ RCRel w wr z n w.heap.size q 0) (fun _ l _ => 16 - (intOf l).toNat)
 case atStart => exact ⟨0, by omega, rfl, rfl, RS⟩
 case round =>
  obtain ⟨q, hq, rfl, rfl, hrel⟩ := hrel
  clear RS hmk
  by_cases hlt : q < 15
  ·
   have hnx := nxt_le (cntN z n) q hq hk
   have hn2 := nxt_two (cntN z n) q
   obtain ⟨x, hx⟩ : ∃ x, x = nxt (cntN z n) q := ⟨_, rfl⟩
   rw [← hx] at hnx hn2 ⊢
   clear hx
   have HX : Hid (x * 2 = fi (cntN z n) (q + 1)) := hn2
   clear hn2
   obtain ⟨m, hm⟩ : ∃ m, m = q + 1 := ⟨_, rfl⟩
   rw [← hm]
   have HM : Hid (m = q + 1) := hm
   have hm1 : q + 1 ≤ m := by omega
   have hm2 : m ≤ q + 1 := by omega
   clear hm
   have hmb : decide ((m : Int) ≤ 15) = true := by rw [decide_eq_true_iff]; omega
   go_wp2
   go_loopw [4, 6] (fun x i wr => ∃ k : Nat, k ≤ n ∧ i = .int .i64 k ∧ x = .int .i64 (fi (cntN z n) (q + 1) + cntN z k (q + 1) : Nat) ∧ RCRel w wr z n w.heap.size q k) (fun _ i _ => n - (intOf i).toNat)
   case atStart => exact ⟨0, by omega, rfl, by rw [← HX.out]; simp [cntN]; omega, hrel⟩
   case round =>
    obtain ⟨k, hk', rfl, rfl, hrel⟩ := hrel
    by_cases hlk : k < n
    ·
     have hc := (hz.later hrel.below).cell k hlk
     have hf := hrel.row.frozen k
     have hcr := hrel.row.cell hlk
     have hft := fi_topL (cntN z n) (q + 1) (by omega) (by omega) hk
     by_cases he : z k = (q : Int) + 1
     ·
      have hcl := cntN_lt z (m := q + 1) hlk (by omega)
      have hcs : cntN z (k + 1) (q + 1) = cntN z k (q + 1) + 1 := by
       simp only [cntN]; rw [if_pos (by omega)]
      obtain ⟨p, hp⟩ : ∃ p, p = fi (cntN z n) (q + 1) + cntN z k (q + 1) := ⟨_, rfl⟩
      have R := rc_step hrel he hp
      rw [← HM.out] at R
      have he' : z k = (m : Int) := by omega
      rw [he'] at hc
      have hpb : p < 2 ^ m := by rw [HM.out]; omega
      have HP : Hid (((p : Int) + 1) = ((fi (cntN z n) (q + 1) + cntN z (k + 1) (q + 1) : Nat) : Int)) := by
       show ((p : Int) + 1) = _
       rw [hcs]; omega
      rw [← hp]
      have hpb2 : p < 32768 := by
       have h3 : 2 ^ m ≤ 2 ^ 15 := Nat.pow_le_pow_right (by omega) (by omega)
       have h4 : (2 : Nat) ^ 15 = 32768 := rfl
       omega
      have HPB : Hid (p < 2 ^ m) := hpb
      clear hp he he' hcs hcl hft hpb hcr
      have hcr := hrel.row.cell hlk
      go_wp2_with fail
      refine (rtext_any p m _ HPB.out (by omega)).mono ?_
      rintro e w' ⟨rfl, rfl⟩
      go_wp2
      go_roundw
      case rel => exact ⟨k + 1, by omega, by go_num, congrArg (Value.int .i64) HP.out, R⟩
      case measure => simp [intOf]; omega
     ·
      have hcs : cntN z (k + 1) (q + 1) = cntN z k (q + 1) := by
       simp only [cntN]; rw [if_neg (by omega)]; rfl
      have hne : (z k == (m : Int)) = false := by rw [beq_eq_false_iff_ne]; omega
      have R := rc_pass hrel he
      have HC : Hid (cntN z (k + 1) (q + 1) = cntN z k (q + 1)) := hcs
      clear hcs hft
      go_wp2
      go_roundw
      case rel => exact ⟨k + 1, by omega, by go_num, by rw [HC.out], R⟩
      case measure => simp [intOf]; omega
    ·
     obtain rfl : k = n := by omega
     have R := rc_next hrel
     go_wp2
     go_roundw
     case rel => exact ⟨q + 1, by omega, by go_num, by unfold nxt; rw [if_neg (by omega)], R⟩
     case measure => simp [intOf]; omega
  ·
   obtain rfl : q = 15 := by omega
   have R := rc_end hrel hr
   go_wp2
   go_ret
   exact ⟨rfl, R, hrel.below⟩
theorem fitB_of_ok {z : Nat → Int} {n : Nat} (h : okB z n = true) (hr : ∀ i, i < n → 0 ≤ z i ∧ z i ≤ 15) : fitB z n = decide (ks0 z n = 32768) := by
 unfold fitB
 rw [h, kr_ks0 z n hr, Bool.true_and]
/- A slice of ints that the call itself made. -/
def intsOf (z : Nat → Int) (n : Nat) : List Value := (List.range n).map fun i => Value.int .i64 (z i)
theorem intsOf_at (z : Nat → Int) {n i : Nat} (h : i < n) : (intsOf z n)[i]? = some (.int .i64 (z i)) := by
 simp [intsOf, h]
theorem intsOf_length (z : Nat → Int) (n : Nat) : (intsOf z n).length = n := by simp [intsOf]
theorem intsOf_succ (z : Nat → Int) (n : Nat) : intsOf z (n + 1) = intsOf z n ++ [.int .i64 (z n)] := by
 simp [intsOf, List.range_succ]
theorem intsOf_congr {z y : Nat → Int} (n : Nat) (h : ∀ i, i < n → z i = y i) : intsOf z n = intsOf y n := by
 apply List.map_congr_left
 intro i hi
 rw [h i (List.mem_range.1 hi)]
/-- A row of n numbers in a block of the call's own. -/
structure OwnI (w : World) (B g cap n : Nat) (z : Nat → Int) : Prop where
 own : w.ownsRow B 3 1 (.slice (some ⟨g, 0, none⟩) n cap) n (intsOf z n)
namespace OwnI
variable {w w' : World} {B g cap n : Nat} {z y : Nat → Int}
theorem cell (h : OwnI w B g cap n z) {i : Nat} (hi : i < n) : w.cell? ⟨g, i, none⟩ = some (.int .i64 (z i)) := by
 rw [h.own.cellAt i (by omega), intsOf_at z hi]
theorem lt (h : OwnI w B g cap n z) : B ≤ g ∧ g < w.heap.size := h.own.lt g rfl
theorem congr (h : OwnI w B g cap n z) (e : ∀ i, i < n → z i = y i) : OwnI w B g cap n y := ⟨by rw [← intsOf_congr n e]; exact h.own⟩
theorem drew (h : OwnI w B g cap n z) : OwnI w.drew B g cap n z := ⟨h.own⟩
theorem ints (h : OwnI w B g cap n z) : IntsAt w g 0 n z := ⟨fun i hi => by rw [Nat.zero_add]; exact h.cell hi, h.lt.2⟩
end OwnI
/- The document's fixed: the codes of kind 1. -/
def fixZ (i : Nat) : Int := if 144 ≤ i ∧ i ≤ 255 then 9 else if 256 ≤ i ∧ i ≤ 279 then 7 else 8
def fivZ (_ : Nat) : Int := 5
theorem fixZ_rng (i : Nat) : 0 ≤ fixZ i ∧ fixZ i ≤ 15 := by
 unfold fixZ
 split
 · omega
 · split <;> omega
theorem fixZ_kr : kr (cntN fixZ 288) 15 ≤ 32768 := by
 rw [kr_ks0 fixZ 288 (fun i _ => fixZ_rng i)]
 decide +kernel
theorem fivZ_kr : kr (cntN fivZ 32) 15 ≤ 32768 := by
 rw [kr_ks0 fivZ 32 (fun i _ => by unfold fivZ; omega)]
 decide +kernel
/-- A list of numbers that is being made: the first k of them. -/
structure LR (w : World) (v : Value) (k : Nat) (z : Nat → Int) (wr : World) : Prop where
 own : wr.ownsRow w.heap.size 3 1 v k (intsOf z k)
 below : Below w.heap.size w wr
theorem lr_start (w : World) (z : Nat → Int) : LR w (.slice none 0 0) 0 z w := ⟨World.ownsRow_nil w _ _ _, Below.refl _ _⟩
theorem lr_step {w wr w2 : World} {v : Value} {k : Nat} {z : Nat → Int} {x : Int} {o : Obj} {g' cap' : Nat} (h : LR w v k z wr) (hz : z k = x)
 (ho : w2.ownsRow w.heap.size 3 1 (.slice (some ⟨g', 0, none⟩) (k + 1) cap') (k + 1) (intsOf z k ++ [.int .i64 x])) (hg : (wr.alloc o).grownBy w2 (some g')) : LR w (.slice (some ⟨g', 0, none⟩) (k + 1) cap') (k + 1) z w2 := by
 subst hz
 refine ⟨by rw [intsOf_succ]; exact ho, ?_⟩
 have h1 := ho.lt g' rfl
 have h2 := h.below.size
 exact (h.below.alloc h2 _).grown hg (by simp; omega) (fun j e => by obtain rfl := Option.some.inj e; exact h1.1)
theorem lr_form {w wr : World} {v : Value} {k : Nat} {z : Nat → Int} (h : LR w v k z wr) (hk : 1 ≤ k) : ∃ g cap, v = .slice (some ⟨g, 0, none⟩) k cap ∧ OwnI wr w.heap.size g cap k z := by
 obtain ⟨h1, h2⟩ := h.own
 rcases h2 with ⟨_, h2⟩ | ⟨g, cap, cur, hv, r⟩
 · omega
 · exact ⟨g, cap, hv, ⟨h1, Or.inr ⟨g, cap, cur, rfl, r⟩⟩⟩
def FixPost (w : World) (e : Ending) (w' : World) : Prop :=
 ∃ gl gd, e = .returned (.tuple #[.slice (some ⟨gl, 0, none⟩) 288 288, .slice (some ⟨gd, 0, none⟩) 32 32]) ∧ w.heap.size ≤ gl ∧ w.heap.size ≤ gd ∧
  w'.rowIs gl 9 288 (fun i => .string (codeT fixZ 288 i)) ∧ w'.rowIs gd 9 32 (fun i => .string (codeT fivZ 32 i)) ∧ Below w.heap.size w w'
set_option maxRecDepth 4000 in
set_option maxHeartbeats 1000000 in
theorem fixed_any (w : World) : Calls Tryz.prog 87 #[] w fun e w' => FixPost w e w' := by
 have R0 := lr_start w fixZ
 go_enter Tryz.func87, Tryz.ntmps87
 go_wp2_with fail
 go_loopw [2, 4, 5] (fun v i _ wr => ∃ k : Nat, k ≤ 288 ∧ i = .int .i64 (k : Nat) ∧ LR w v k fixZ wr) (fun _ i _ _ => 288 - (intOf i).toNat)
 case atStart => exact ⟨0, by omega, rfl, R0⟩
 case round =>
  clear R0
  obtain ⟨k, hk, rfl, hrel⟩ := hrel
  by_cases hlt : k < 288
  ·
   rcases (by omega : k < 144 ∨ (144 ≤ k ∧ k ≤ 255) ∨ (256 ≤ k ∧ k ≤ 279) ∨ 280 ≤ k) with c | c | c | c
   ·
    have HZ : Hid (fixZ k = 8) := by show _ = _; unfold fixZ; rw [if_neg (by omega), if_neg (by omega)]
    go_wp2_with (first | (at_builtin; refine wpList_append1s wr rfl (.tmp 23) (.tmp 25) 61 rfl _ 3 (.int .i64 0) 8 Tryz.underlying61 Tryz.info3 rfl u2 k _ (.int .i64 8) rfl rfl wr.heap.size rfl rfl hrel.own hrel.below.size (by unfold maxLen; omega) (by omega) ?_) | fail)
    intro g' cap' w2 ho hd hg
    have R := lr_step hrel HZ.out ho hg
    clear ho hd hg hrel
    go_wp2
    go_roundw
    case rel => exact ⟨k + 1, by omega, by go_num, R⟩
    case measure => simp [intOf]; omega
   ·
    have HZ : Hid (fixZ k = 9) := by show _ = _; unfold fixZ; rw [if_pos (by omega)]
    go_wp2_with (first | (at_builtin; refine wpList_append1s wr rfl (.tmp 23) (.tmp 25) 61 rfl _ 3 (.int .i64 0) 8 Tryz.underlying61 Tryz.info3 rfl u2 k _ (.int .i64 9) rfl rfl wr.heap.size rfl rfl hrel.own hrel.below.size (by unfold maxLen; omega) (by omega) ?_) | fail)
    intro g' cap' w2 ho hd hg
    have R := lr_step hrel HZ.out ho hg
    clear ho hd hg hrel
    go_wp2
    go_roundw
    case rel => exact ⟨k + 1, by omega, by go_num, R⟩
    case measure => simp [intOf]; omega
   ·
    have HZ : Hid (fixZ k = 7) := by show _ = _; unfold fixZ; rw [if_neg (by omega), if_pos (by omega)]
    go_wp2_with (first | (at_builtin; refine wpList_append1s wr rfl (.tmp 23) (.tmp 25) 61 rfl _ 3 (.int .i64 0) 8 Tryz.underlying61 Tryz.info3 rfl u2 k _ (.int .i64 7) rfl rfl wr.heap.size rfl rfl hrel.own hrel.below.size (by unfold maxLen; omega) (by omega) ?_) | fail)
    intro g' cap' w2 ho hd hg
    have R := lr_step hrel HZ.out ho hg
    clear ho hd hg hrel
    go_wp2
    go_roundw
    case rel => exact ⟨k + 1, by omega, by go_num, R⟩
    case measure => simp [intOf]; omega
   ·
    have HZ : Hid (fixZ k = 8) := by show _ = _; unfold fixZ; rw [if_neg (by omega), if_neg (by omega)]
    go_wp2_with (first | (at_builtin; refine wpList_append1s wr rfl (.tmp 23) (.tmp 25) 61 rfl _ 3 (.int .i64 0) 8 Tryz.underlying61 Tryz.info3 rfl u2 k _ (.int .i64 8) rfl rfl wr.heap.size rfl rfl hrel.own hrel.below.size (by unfold maxLen; omega) (by omega) ?_) | fail)
    intro g' cap' w2 ho hd hg
    have R := lr_step hrel HZ.out ho hg
    clear ho hd hg hrel
    go_wp2
    go_roundw
    case rel => exact ⟨k + 1, by omega, by go_num, R⟩
    case measure => simp [intOf]; omega
  ·
   have HK : Hid (k = 288) := by show k = 288; omega
   have dK : decide ((k : Int) < 288) = false := by rw [decide_eq_false_iff_not]; omega
   obtain ⟨gl, cl, rfl, hol⟩ := lr_form hrel (by omega)
   obtain ⟨k0, hk0⟩ : ∃ k0, k0 = k := ⟨_, rfl⟩
   rw [← hk0] at HK hol dK ⊢
   have hb1 := hrel.below
   obtain ⟨w1, hw1⟩ : ∃ w1, w1 = wr := ⟨_, rfl⟩
   have R1 := lr_start w1 fivZ
   rw [← hw1] at hol hb1 ⊢
   clear hrel hlt hk hw1 hk0
   go_wp2_with fail
   go_loopw [3, 6] (fun v i wq => ∃ k : Nat, k ≤ 32 ∧ i = .int .i64 (k : Nat) ∧ LR w1 v k fivZ wq) (fun _ i _ => 32 - (intOf i).toNat)
   case atStart => exact ⟨0, by omega, rfl, R1⟩
   case round =>
    clear R1
    obtain ⟨k, hk, rfl, hrel⟩ := hrel
    by_cases hlt : k < 32
    ·
     have HZ : Hid (fivZ k = 5) := rfl
     go_wp2_with (first | (at_builtin; refine wpList_append1s wr rfl (.tmp 31) (.tmp 32) 61 rfl _ 3 (.int .i64 0) 8 Tryz.underlying61 Tryz.info3 rfl u3 k _ (.int .i64 5) rfl rfl wr.heap.size rfl rfl hrel.own hrel.below.size (by unfold maxLen; omega) (by omega) ?_) | fail)
     intro g' cap' w2 ho hd hg
     have R := lr_step hrel HZ.out ho hg
     clear ho hd hg hrel
     go_wp2
     go_roundw
     case rel => exact ⟨k + 1, by omega, by go_num, R⟩
     case measure => simp [intOf]; omega
    ·
     obtain rfl : k = 32 := by omega
     obtain ⟨gd, cd, rfl, hod⟩ := lr_form hrel (by omega)
     have hb2 := hrel.below
     have hI1 := hol.ints.later hb2
     clear hrel hlt hk
     go_wp2_with fail
     refine (rcodes_any gl 0 k0 cl fixZ _ hI1 (by have := HK.out; omega) (fun i _ => fixZ_rng i) (by rw [HK.out]; exact fixZ_kr)).mono ?_
     rintro e w3 ⟨rfl, hr3, hb3⟩
     have hI2 := hod.ints.later hb3
     go_wp2_with fail
     refine (rcodes_any gd 0 32 cd fivZ _ hI2 (by omega) (fun i _ => by unfold fivZ; omega) fivZ_kr).mono ?_
     rintro e w4 ⟨rfl, hr4, hb4⟩
     have hs1 := hb1.size
     have hs2 := hb2.size
     have hs3 := hb3.size
     have P : FixPost w (.returned (.tuple #[.slice (some ⟨wr.heap.size, 0, none⟩) k0 k0, .slice (some ⟨w3.heap.size, 0, none⟩) 32 32])) w4 := by
      have e := HK.out
      subst e
      exact ⟨_, _, rfl, by omega, by omega, hr3.of_block (hb4.block _ hr3.lt), hr4, ((hb1.trans (hb2.mono hs1)).trans (hb3.mono (by omega))).trans (hb4.mono (by omega))⟩
     clear hr3 hr4 hb1 hb2 hb3 hb4 hI1 hI2 hol hod hs1 hs2 hs3
     go_wp2
     go_ret2
     exact P
end Go.Proofs.YtecddphahiadlaaGreatDoor
