/- Lengths that fit fill all rows of bits, and codes rise: plain facts. -/
import Derived.Test.YtecddphahiadlaaBits
namespace Go.Proofs.Ytecddphahiadlaa
open Go.RowKit

/-- Lengths that fit, each of them 1 to 15. -/
structure Full (z : Nat → Int) (n : Nat) : Prop where
  fit : fitB z n = true
  low : ∀ i, i < n → 1 ≤ z i

theorem Full.kr {z : Nat → Int} {n : Nat} (h : Full z n) : kr (cntN z n) 15 = 32768 := by
  have := h.fit
  simp only [fitB, Bool.and_eq_true, decide_eq_true_eq] at this
  exact this.2
theorem Full.rng {z : Nat → Int} {n i : Nat} (h : Full z n) (hi : i < n) : 1 ≤ (z i).toNat ∧ (z i).toNat ≤ 15 ∧ z i = ((z i).toNat : Int) := by
  have := h.fit
  simp only [fitB, Bool.and_eq_true] at this
  have h1 := ((okB_iff z n).1 this.1).2 i hi
  have h2 := h.low i hi
  omega

theorem codeN_part {z : Nat → Int} {n : Nat} (h : Full z n) {i k : Nat} (hi : i < n) (hk : k < n) (ho : (z k).toNat < (z i).toNat ∨ ((z k).toNat = (z i).toNat ∧ k < i)) :
    (codeN z n k + 1) * 2 ^ (15 - (z k).toNat) ≤ codeN z n i * 2 ^ (15 - (z i).toNat) := by
  obtain ⟨a1, a2, a3⟩ := h.rng hi
  obtain ⟨b1, b2, b3⟩ := h.rng hk
  rcases ho with ho | ⟨ho, hki⟩
  · obtain ⟨q, hq⟩ : ∃ q, (z k).toNat = q + 1 := ⟨(z k).toNat - 1, by omega⟩
    obtain ⟨p, hp⟩ : ∃ p, (z i).toNat = p + 1 := ⟨(z i).toNat - 1, by omega⟩
    have h1 := cntN_lt z (m := (z k).toNat) hk b3
    have e1 : codeN z n k + 1 ≤ fi (cntN z n) (q + 1) + cntN z n (q + 1) := by
      unfold codeN; rw [hq] at h1 ⊢; omega
    have h2 := Nat.mul_le_mul_right (2 ^ (15 - (q + 1))) e1
    rw [Nat.add_mul (fi (cntN z n) (q + 1)), fi_kr _ q (by omega), ← kr_succ] at h2
    have h3 := kr_mono (cntN z n) (show q + 1 ≤ p by omega)
    rw [← fi_kr (cntN z n) p (by omega)] at h3
    have h4 : fi (cntN z n) (p + 1) ≤ codeN z n i := by
      unfold codeN; rw [hp]; omega
    have h5 := Nat.mul_le_mul_right (2 ^ (15 - (p + 1))) h4
    rw [hq, hp]
    omega
  · rw [ho]
    apply Nat.mul_le_mul_right
    have h1 := cntN_lt z (m := (z k).toNat) hki b3
    unfold codeN
    rw [ho] at h1 ⊢
    omega

theorem codeT_eq {z : Nat → Int} {n : Nat} (h : Full z n) {i : Nat} (hi : i < n) : codeT z n i = bitsB (codeN z n i) (z i).toNat := by
  have := h.low i hi
  unfold codeT
  rw [if_neg (by omega)]

theorem codes_apt {z : Nat → Int} {n : Nat} (h : Full z n) {i k : Nat} (hi : i < n) (hk : k < n) (ho : (z k).toNat < (z i).toNat ∨ ((z k).toNat = (z i).toNat ∧ k < i)) :
    Apt (codeT z n k).toList (codeT z n i).toList := by
  rw [codeT_eq h hi, codeT_eq h hk, ByteArray.toList_eq, ByteArray.toList_eq]
  show Apt (bitsL _ _) (bitsL _ _)
  obtain ⟨a1, a2, a3⟩ := h.rng hi
  obtain ⟨b1, b2, b3⟩ := h.rng hk
  have hp := codeN_part h hi hk ho
  have hlt := codeN_lt h.fit hi (by omega)
  apply bitsL_apt _ _ _ _ (by omega) hlt
  have e : 15 - (z k).toNat = ((z i).toNat - (z k).toNat) + (15 - (z i).toNat) := by omega
  rw [e, Nat.pow_add, ← Nat.mul_assoc] at hp
  have hp2 := Nat.le_of_mul_le_mul_right hp (Nat.two_pow_pos _)
  exact (Nat.le_div_iff_mul_le (Nat.two_pow_pos _)).2 hp2

/-- How many of the first k say yes. -/
def fnd (p : Nat → Bool) : Nat → Nat
  | 0 => 0
  | k + 1 => fnd p k + if p k = true then 1 else 0

theorem fnd_le (p : Nat → Bool) (k : Nat) : fnd p k ≤ k := by
  induction k with
  | zero => simp [fnd]
  | succ k ih => simp only [fnd]; split <;> omega

theorem fnd_one (p : Nat → Bool) (n i : Nat) (hi : i < n) (hp : p i = true) (hu : ∀ k, k < n → p k = true → k = i) : fnd p n = 1 := by
  have h : ∀ k, k ≤ n → fnd p k = if i < k then 1 else 0 := by
    intro k
    induction k with
    | zero => intro _; simp [fnd]
    | succ k ih =>
      intro hk
      simp only [fnd]
      rw [ih (by omega)]
      by_cases e : k = i
      · subst e
        rw [if_neg (by omega), if_pos hp, if_pos (by omega)]
      · have hnp : ¬ p k = true := fun h' => e (hu k (by omega) h')
        rw [if_neg hnp]
        by_cases hlt : i < k
        · rw [if_pos hlt, if_pos (by omega)]
        · rw [if_neg hlt, if_neg (by omega)]
  rw [h n (Nat.le_refl _), if_pos hi]

theorem cntN_at (z : Nat → Int) (l r n : Nat) (h : r < cntN z n l) : ∃ i, i < n ∧ z i = (l : Int) ∧ cntN z i l = r := by
  induction n with
  | zero => simp [cntN] at h
  | succ n ih =>
    by_cases hr : r < cntN z n l
    · obtain ⟨i, h1, h2⟩ := ih hr
      exact ⟨i, by omega, h2⟩
    · simp only [cntN] at h
      by_cases hz : z n = (l : Int)
      · rw [if_pos hz] at h
        exact ⟨n, by omega, hz, by omega⟩
      · rw [if_neg hz] at h
        omega

theorem kr_find (c : Nat → Nat) (N : Nat) : ∀ m, N < kr c m → ∃ q, q < m ∧ kr c q ≤ N ∧ N < kr c (q + 1)
  | 0, h => by simp [kr] at h
  | m + 1, h => by
    by_cases h1 : N < kr c m
    · obtain ⟨q, h2, h3⟩ := kr_find c N m h1
      exact ⟨q, by omega, h3⟩
    · exact ⟨m, by omega, by omega, h⟩

/-- Of fifteen bits just one code is the beginning. -/
theorem one_begins {z : Nat → Int} {n : Nat} (h : Full z n) (N : Nat) (hN : N < 32768) : fnd (fun i => begB (codeT z n i) (bitsB N 15)) n = 1 := by
  have key : ∀ i, i < n → (begB (codeT z n i) (bitsB N 15) = true ↔ codeN z n i = N / 2 ^ (15 - (z i).toNat)) := by
    intro i hi
    obtain ⟨a1, a2, a3⟩ := h.rng hi
    have hlt := codeN_lt h.fit hi (by omega)
    rw [codeT_eq h hi]
    unfold begB
    rw [decide_eq_true_iff]
    exact bitsL_begins _ _ _ _ a2 hlt hN
  obtain ⟨q, hq1, hq2, hq3⟩ := kr_find (cntN z n) N 15 (by rw [h.kr]; exact hN)
  have hk := fi_kr (cntN z n) q hq1
  have hs := kr_succ (cntN z n) q
  have hP := Nat.two_pow_pos (15 - (q + 1))
  have hr : (N - kr (cntN z n) q) / 2 ^ (15 - (q + 1)) < cntN z n (q + 1) := by
    rw [Nat.div_lt_iff_lt_mul hP]; omega
  obtain ⟨i, hi, hzi, hci⟩ := cntN_at z (q + 1) _ n hr
  have hpi : codeN z n i = N / 2 ^ (15 - (z i).toNat) := by
    have e : (z i).toNat = q + 1 := by omega
    unfold codeN
    rw [e, hci]
    have e2 : N = (N - kr (cntN z n) q) + 2 ^ (15 - (q + 1)) * fi (cntN z n) (q + 1) := by
      rw [Nat.mul_comm, hk]; omega
    have e3 : N / 2 ^ (15 - (q + 1)) = (N - kr (cntN z n) q) / 2 ^ (15 - (q + 1)) + fi (cntN z n) (q + 1) := by
      conv => lhs; rw [e2]
      rw [Nat.add_mul_div_left _ _ hP]
    omega
  have hin : ∀ k, k < n → codeN z n k = N / 2 ^ (15 - (z k).toNat) → codeN z n k * 2 ^ (15 - (z k).toNat) ≤ N ∧ N < (codeN z n k + 1) * 2 ^ (15 - (z k).toNat) := by
    intro k _ e
    rw [e]
    have hP := Nat.two_pow_pos (15 - (z k).toNat)
    refine ⟨Nat.div_mul_le_self _ _, ?_⟩
    have h2 := Nat.lt_succ_self (N / 2 ^ (15 - (z k).toNat))
    exact (Nat.div_lt_iff_lt_mul hP).1 h2
  refine fnd_one _ n i hi ((key i hi).2 hpi) (fun k hk' hpk => ?_)
  have hpk' := (key k hk').1 hpk
  have b1 := hin i hi hpi
  have b2 := hin k hk' hpk'
  by_cases e : k = i
  · exact e
  · exfalso
    by_cases o1 : (z k).toNat < (z i).toNat ∨ ((z k).toNat = (z i).toNat ∧ k < i)
    · have := codeN_part h hi hk' o1; omega
    · have := codeN_part h hk' hi (by omega); omega

/-! The sum over the symbols. -/

def wt (v : Int) : Nat := 2 ^ (15 - v.toNat)
def ks (z : Nat → Int) : Nat → Nat
  | 0 => 0
  | k + 1 => ks z k + wt (z k)

theorem ks_succ (z : Nat → Int) (k : Nat) : ks z (k + 1) = ks z k + wt (z k) := rfl

theorem kr_add (c : Nat → Nat) (v : Int) (m : Nat) : kr (fun l => c l + if v = (l : Int) then 1 else 0) m = kr c m + if 1 ≤ v ∧ v ≤ (m : Int) then wt v else 0 := by
  induction m with
  | zero => rw [if_neg (by omega)]; rfl
  | succ m ih =>
    rw [kr_succ, kr_succ, ih]
    by_cases e : v = ((m + 1 : Nat) : Int)
    · rw [if_neg (by omega), if_pos e, if_pos (by omega), Nat.add_mul, Nat.one_mul]
      have : wt v = 2 ^ (15 - (m + 1)) := by unfold wt; rw [e, Int.toNat_natCast]
      omega
    · rw [if_neg e]
      by_cases h1 : 1 ≤ v ∧ v ≤ (m : Int)
      · rw [if_pos h1, if_pos (by omega), Nat.add_zero (c (m + 1))]; omega
      · rw [if_neg h1, if_neg (by omega), Nat.add_zero (c (m + 1))]; omega

theorem kr_ks (z : Nat → Int) (n : Nat) (h : ∀ i, i < n → 1 ≤ z i ∧ z i ≤ 15) : kr (cntN z n) 15 = ks z n := by
  induction n with
  | zero =>
    have : ∀ m, kr (cntN z 0) m = 0 := by
      intro m
      induction m with
      | zero => rfl
      | succ m ih => rw [kr_succ, ih]; simp [cntN]
    exact this 15
  | succ n ih =>
    have e : cntN z (n + 1) = fun l => cntN z n l + if z n = (l : Int) then 1 else 0 := by
      funext l; rfl
    have hn := h n (by omega)
    rw [e, kr_add, ih (fun i hi => h i (by omega)), if_pos ⟨hn.1, hn.2⟩]
    rfl

theorem ks_congr {z y : Nat → Int} (n : Nat) (h : ∀ i, i < n → z i = y i) : ks z n = ks y n := by
  induction n with
  | zero => rfl
  | succ n ih => simp only [ks]; rw [ih (fun i hi => h i (by omega)), h n (by omega)]

theorem ks_set (z : Nat → Int) (k : Nat) (v : Int) (n : Nat) (hk : k < n) : ks (fun i => if i = k then v else z i) n + wt (z k) = ks z n + wt v := by
  induction n with
  | zero => omega
  | succ n ih =>
    simp only [ks]
    by_cases e : k = n
    · subst e
      rw [if_pos rfl, ks_congr (y := z) k (fun i hi => by rw [if_neg (by omega)])]
      omega
    · have := ih (by omega)
      rw [if_neg (fun h => e h.symm)]
      omega

theorem ks_shift (z : Nat → Int) (n : Nat) : ks z (n + 1) = wt (z 0) + ks (fun i => z (i + 1)) n := by
  induction n with
  | zero => simp [ks]
  | succ n ih =>
    have e : ks z (n + 1 + 1) = ks z (n + 1) + wt (z (n + 1)) := rfl
    rw [e, ih]
    simp only [ks]
    omega

theorem fit_of_ks {z : Nat → Int} {n : Nat} (hn : n ≤ 288) (h : ∀ i, i < n → 1 ≤ z i ∧ z i ≤ 15) : fitB z n = decide (ks z n = 32768) := by
  have ho : okB z n = true := okB_yes hn (fun i hi => ⟨by have := h i hi; omega, (h i hi).2⟩)
  unfold fitB
  rw [ho, kr_ks z n h, Bool.true_and]

/-- What the tree's lengths are. -/
structure Grows (z : Nat → Int) (n : Nat) : Prop where
  two : 2 ≤ n
  rng : ∀ i, i < n → 1 ≤ z i ∧ z i ≤ 15
  sum : ks z n = 32768

theorem Grows.full {z : Nat → Int} {n : Nat} (h : Grows z n) (hn : n ≤ 288) : Full z n :=
  ⟨by rw [fit_of_ks hn h.rng, h.sum]; rfl, fun i hi => (h.rng i hi).1⟩

theorem Grows.start : Grows (fun _ => 1) 2 := ⟨by omega, fun _ _ => by omega, by decide⟩

theorem Grows.congr {z y : Nat → Int} {n : Nat} (h : Grows z n) (e : ∀ i, i < n → z i = y i) : Grows y n :=
  ⟨h.two, fun i hi => by rw [← e i hi]; exact h.rng i hi, by rw [← ks_congr n e]; exact h.sum⟩

theorem Grows.split {z : Nat → Int} {n k : Nat} (h : Grows z n) (hk : k < n) (hz : z k < 15) :
    Grows (fun i => if i = n then z k + 1 else if i = k then z k + 1 else z i) (n + 1) := by
  refine ⟨by have := h.two; omega, fun i hi => ?_, ?_⟩
  · have hk' := h.rng k hk
    by_cases e : i = n
    · rw [if_pos e]; omega
    · rw [if_neg e]
      by_cases e2 : i = k
      · rw [if_pos e2]; omega
      · rw [if_neg e2]; exact h.rng i (by omega)
  · have h1 := ks_set z k (z k + 1) n hk
    have hk' := h.rng k hk
    have e : wt (z k) = wt (z k + 1) + wt (z k + 1) := by
      unfold wt
      have e1 : (z k + 1).toNat = (z k).toNat + 1 := by omega
      have e2 : 15 - (z k).toNat = (15 - ((z k).toNat + 1)) + 1 := by omega
      rw [e1, e2, Nat.pow_succ]; omega
    have hs := h.sum
    rw [ks_succ, if_pos rfl, ks_congr (y := fun i => if i = k then z k + 1 else z i) n (fun i hi => by rw [if_neg (by omega)])]
    omega

theorem Grows.more {z : Nat → Int} {n : Nat} (h : Grows z n) (hn : n < 288) : fitB (fun i => if i = n then 15 else z i) (n + 1) = false := by
  rw [fit_of_ks (by omega) (fun i hi => ?_)]
  · rw [decide_eq_false_iff_not]
    rw [ks_succ, if_pos rfl, ks_congr (y := z) n (fun i hi => by rw [if_neg (by omega)]), h.sum]
    decide
  · by_cases e : i = n
    · rw [if_pos e]; omega
    · rw [if_neg e]; exact h.rng i (by omega)

theorem Grows.other {z : Nat → Int} {n : Nat} (h : Grows z n) (hn : n < 288) (h0 : z 0 ≠ 15) : fitB (fun i => if i + 1 = n then 15 else z (i + 1)) n = false := by
  have h2 := h.two
  have r0 := h.rng 0 (by omega)
  rw [fit_of_ks (by omega) (fun i hi => ?_)]
  · rw [decide_eq_false_iff_not]
    have e1 := ks_shift (fun i => if i = n then 15 else z i) n
    have e2 : ks (fun i => if i = n then 15 else z i) (n + 1) = 32769 := by
      rw [ks_succ, if_pos rfl, ks_congr (y := z) n (fun i hi => by rw [if_neg (by omega)]), h.sum]
      rfl
    rw [e2, if_neg (by omega)] at e1
    intro h3
    have h4 : wt (z 0) = 1 := by omega
    unfold wt at h4
    have h5 := Nat.pow_eq_one.1 h4
    omega
  · by_cases e : i + 1 = n
    · rw [if_pos e]; omega
    · rw [if_neg e]; exact h.rng (i + 1) (by omega)

end Go.Proofs.Ytecddphahiadlaa
