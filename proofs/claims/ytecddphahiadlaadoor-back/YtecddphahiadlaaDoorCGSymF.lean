/- A symbol by how many codes there are of each length: plain reckoning, against the document's way. -/
import Derived.Test.YtecddphahiadlaaDoorCGSetF
import Derived.Test.YtecddphahiadlaaDoorCSym
namespace Go.Proofs.YtecddphahiadlaaDoor
open Go.RowKit

/-- The first number behind the codes of L letters. -/
def topN (c : Nat → Nat) : Nat → Nat
  | 0 => 0
  | L + 1 => fi c (L + 1) + c (L + 1)

theorem fi_top2 (c : Nat → Nat) (L : Nat) : fi c (L + 1) = 2 * topN c L := by
  cases L with
  | zero => rfl
  | succ L => simp only [fi, topN]; omega

theorem kr_top (c : Nat → Nat) : ∀ L, L ≤ 15 → kr c L = topN c L * 2 ^ (15 - L)
  | 0, _ => by simp [kr, topN]
  | L + 1, h => by
    have h1 := fi_kr c L (by omega)
    rw [kr_succ, ← h1]
    simp only [topN]
    rw [Nat.add_mul]

/-- Lengths by which a code can be read letter by letter. -/
structure Tidy (z : Nat → Int) (n : Nat) : Prop where
  rng : ∀ i, i < n → 0 ≤ z i ∧ z i ≤ 15
  le : kr (cntN z n) 15 ≤ 32768
  full : ∀ L x, L ≤ 15 → x < 2 ^ L → topN (cntN z n) L ≤ x → pas (cntN z n) L < pas (cntN z n) 15 → x * 2 ^ (15 - L) < kr (cntN z n) 15

theorem topN_le {z : Nat → Int} {n : Nat} (h : Tidy z n) (L : Nat) (hL : L ≤ 15) : topN (cntN z n) L ≤ 2 ^ L := by
  have h1 := kr_top (cntN z n) L hL
  have h2 := kr_mono (cntN z n) hL
  have h3 := h.le
  have e : (32768 : Nat) = 2 ^ L * 2 ^ (15 - L) := by rw [← Nat.pow_add, show L + (15 - L) = 15 from by omega]
  have h4 : topN (cntN z n) L * 2 ^ (15 - L) ≤ 2 ^ L * 2 ^ (15 - L) := by rw [← e, ← h1]; omega
  exact Nat.le_of_mul_le_mul_right h4 (Nat.two_pow_pos _)

theorem codeN_top {z : Nat → Int} {n i : Nat} (h : Tidy z n) (hi : i < n) (h0 : 1 ≤ z i) : codeN z n i < 2 ^ (z i).toNat := by
  have hr := h.rng i hi
  obtain ⟨q, hq⟩ : ∃ q, (z i).toNat = q + 1 := ⟨(z i).toNat - 1, by omega⟩
  have h1 := topN_le h (q + 1) (by omega)
  have h2 := cntN_lt z (m := (z i).toNat) hi (by omega)
  unfold codeN
  rw [hq] at h2 ⊢
  simp only [topN] at h1
  omega

theorem bitsB_list (x m : Nat) : (bitsB x m).toList = bitsL x m := by
  rw [ByteArray.toList_eq]
  simp [bitsB]

theorem bitsL_ne {x m : Nat} (h : m ≠ 0) : bitsL x m ≠ [] := by
  intro e
  have := congrArg List.length e
  rw [bitsL_length] at this
  exact h this

theorem codeT_one {z : Nat → Int} {n i : Nat} (h0 : 1 ≤ z i) : codeT z n i = bitsB (codeN z n i) (z i).toNat := by
  unfold codeT; rw [if_neg (by omega)]
theorem codeT_none {z : Nat → Int} {n i : Nat} (h0 : z i = 0) : codeT z n i = .empty := by
  unfold codeT; rw [if_pos h0]

theorem hit_iff {z : Nat → Int} {n : Nat} (h : Tidy z n) {i L x : Nat} (hi : i < n) (hL : 1 ≤ L) (hx : x < 2 ^ L) : hitB (codeT z n i) (bitsB x L) = true ↔ (z i).toNat = L ∧ codeN z n i = x := by
  have hr := h.rng i hi
  by_cases h0 : z i = 0
  · rw [codeT_none h0, h0]
    exact ⟨fun e => by simp [hitB] at e, fun e => by have := e.1; simp at this; omega⟩
  · have h1 := codeN_top h hi (by omega)
    rw [codeT_one (by omega)]
    unfold hitB
    rw [bitsB_list, bitsB_list, Bool.and_eq_true, beq_iff_eq]
    refine ⟨fun e => ?_, fun e => ?_⟩
    · have hl := congrArg List.length e.2
      rw [bitsL_length, bitsL_length] at hl
      refine ⟨hl, ?_⟩
      have e2 := e.2
      rw [hl] at e2 h1
      exact bitsL_inj L _ _ h1 hx e2
    · rw [e.1, e.2]
      refine ⟨?_, rfl⟩
      have := bitsL_ne (x := x) (m := L) (by omega)
      cases hb : bitsL x L with
      | nil => exact absurd hb this
      | cons a l => rfl

theorem hit_empty (a : ByteArray) : hitB a .empty = false := by
  unfold hitB
  have e : (ByteArray.empty).toList = [] := by rw [ByteArray.toList_eq]; rfl
  rw [e]
  cases a.toList with
  | nil => rfl
  | cons x l => rfl

theorem hitF_none_all {c : Nat → ByteArray} {cur : ByteArray} : ∀ (r k : Nat), (∀ i, k ≤ i → i < k + r → hitB (c i) cur = false) → hitF c cur r k = none
  | 0, _, _ => rfl
  | r + 1, k, h => by
    rw [hitF_step (h k (Nat.le_refl _) (by omega))]
    exact hitF_none_all r (k + 1) (fun i h1 h2 => h i (by omega) (by omega))

theorem hitF_one {c : Nat → ByteArray} {cur : ByteArray} {i : Nat} (hi : hitB (c i) cur = true) : ∀ (r k : Nat), k ≤ i → i < k + r → (∀ j, k ≤ j → j < k + r → hitB (c j) cur = true → j = i) → hitF c cur r k = some i
  | 0, _, h1, h2, _ => by omega
  | r + 1, k, h1, h2, hu => by
    by_cases e : k = i
    · subst e; exact hitF_yes hi
    · have hn : hitB (c k) cur = false := by
        rw [Bool.eq_false_iff]
        intro hh
        exact e (hu k (Nat.le_refl _) (by omega) hh)
      rw [hitF_step hn]
      exact hitF_one hi r (k + 1) (by omega) (by omega) (fun j a b => hu j (by omega) (by omega))

theorem cntN_inj {z : Nat → Int} {i k l : Nat} (hi : z i = (l : Int)) (hk : z k = (l : Int)) (h : cntN z i l = cntN z k l) : i = k := by
  rcases Nat.lt_trichotomy i k with e | e | e
  · have := cntN_lt z (m := l) e hi; omega
  · exact e
  · have := cntN_lt z (m := l) e hk; omega

theorem hitF_in {z : Nat → Int} {n : Nat} (h : Tidy z n) {L x r : Nat} (hL : 1 ≤ L) (hx : x < 2 ^ L) (hr : r < cntN z n L) (hxr : x = fi (cntN z n) L + r) :
    ∃ i, i < n ∧ z i = (L : Int) ∧ cntN z i L = r ∧ hitF (codeT z n) (bitsB x L) n 0 = some i := by
  obtain ⟨i, hi, hzi, hci⟩ := cntN_at z L r n hr
  refine ⟨i, hi, hzi, hci, ?_⟩
  have e : (z i).toNat = L := by omega
  have hc : codeN z n i = x := by unfold codeN; rw [e, hci, hxr]
  refine hitF_one ((hit_iff h hi hL hx).2 ⟨e, hc⟩) n 0 (by omega) (by omega) (fun j _ hj hh => ?_)
  obtain ⟨a, b⟩ := (hit_iff h (by omega) hL hx).1 hh
  have hzj := h.rng j (by omega)
  unfold codeN at b hc
  rw [a] at b
  rw [e] at hc
  exact cntN_inj (l := L) (by omega) hzi (by omega)

theorem hitF_out {z : Nat → Int} {n : Nat} (h : Tidy z n) {L x : Nat} (hL : 1 ≤ L) (hx : x < 2 ^ L) (hxr : fi (cntN z n) L + cntN z n L ≤ x) : hitF (codeT z n) (bitsB x L) n 0 = none := by
  refine hitF_none_all n 0 (fun i _ hi => ?_)
  rw [Bool.eq_false_iff]
  intro hh
  obtain ⟨a, b⟩ := (hit_iff h (by omega) hL hx).1 hh
  have hzi := h.rng i (by omega)
  have := cntN_lt z (m := L) (show i < n by omega) (by omega)
  unfold codeN at b
  rw [a] at b
  omega

theorem some_iff {c : Nat → ByteArray} {cur : ByteArray} : ∀ (n : Nat), someB c cur n = true ↔ ∃ i, i < n ∧ longB (c i) cur = true
  | 0 => ⟨fun h => by simp [someB] at h, fun ⟨i, h, _⟩ => by omega⟩
  | n + 1 => by
    simp only [someB, Bool.or_eq_true]
    rw [some_iff n]
    refine ⟨fun h => ?_, fun ⟨i, hi, hl⟩ => ?_⟩
    · rcases h with ⟨i, hi, hl⟩ | h
      · exact ⟨i, by omega, hl⟩
      · exact ⟨n, by omega, h⟩
    · by_cases e : i = n
      · subst e; exact Or.inr hl
      · exact Or.inl ⟨i, by omega, hl⟩

theorem extract_list (x m L : Nat) : ((bitsB x m).extract 0 L).toList = (bitsL x m).take L := by
  rw [ByteArray.toList_eq, ByteArray.data_extract, Array.toList_extract]
  simp [bitsB]

/-- Whether a longer code begins so hangs on how many codes are still to come. -/
theorem some_pas {z : Nat → Int} {n : Nat} (h : Tidy z n) {L x : Nat} (hL : L ≤ 15) (hx : x < 2 ^ L) (ht : topN (cntN z n) L ≤ x) :
    someB (codeT z n) (bitsB x L) n = decide (pas (cntN z n) L < pas (cntN z n) 15) := by
  rw [Bool.eq_iff_iff, some_iff, decide_eq_true_iff]
  refine ⟨fun ⟨i, hi, hl⟩ => ?_, fun hp => ?_⟩
  · have hr := h.rng i hi
    simp only [longB, Bool.and_eq_true, decide_eq_true_eq, bitsB_size] at hl
    have h0 : 1 ≤ z i := by
      by_cases e : z i = 0
      · rw [codeT_none e] at hl
        have : (ByteArray.empty).size = 0 := rfl
        omega
      · omega
    have hl1 := hl.1
    rw [codeT_one h0, bitsB_size] at hl1
    have h1 := plc_lt hi h0
    have h2 := pas_mono (cntN z n) (show (z i).toNat ≤ 15 by omega)
    have h3 := pas_mono (cntN z n) (show L ≤ (z i).toNat - 1 by omega)
    unfold plc at h1
    omega
  · have hN := h.full L x hL hx ht hp
    obtain ⟨q, hq1, hq2, hq3⟩ := kr_find (cntN z n) (x * 2 ^ (15 - L)) 15 hN
    have hkL := kr_top (cntN z n) L hL
    have hqL : L ≤ q := by
      by_cases c : L ≤ q
      · exact c
      · have h1 := kr_mono (cntN z n) (show q + 1 ≤ L by omega)
        have h2 := Nat.mul_le_mul_right (2 ^ (15 - L)) ht
        omega
    have hk := fi_kr (cntN z n) q hq1
    have hs := kr_succ (cntN z n) q
    have hP := Nat.two_pow_pos (15 - (q + 1))
    have hr : (x * 2 ^ (15 - L) - kr (cntN z n) q) / 2 ^ (15 - (q + 1)) < cntN z n (q + 1) := by
      rw [Nat.div_lt_iff_lt_mul hP]; omega
    obtain ⟨i, hi, hzi, hci⟩ := cntN_at z (q + 1) _ n hr
    have e : (z i).toNat = q + 1 := by omega
    have hpi : codeN z n i = x * 2 ^ (15 - L) / 2 ^ (15 - (q + 1)) := by
      unfold codeN
      rw [e, hci]
      have e2 : x * 2 ^ (15 - L) = (x * 2 ^ (15 - L) - kr (cntN z n) q) + 2 ^ (15 - (q + 1)) * fi (cntN z n) (q + 1) := by
        rw [Nat.mul_comm _ (fi _ _), hk]; omega
      have e3 : x * 2 ^ (15 - L) / 2 ^ (15 - (q + 1)) = (x * 2 ^ (15 - L) - kr (cntN z n) q) / 2 ^ (15 - (q + 1)) + fi (cntN z n) (q + 1) := by
        conv => lhs; rw [e2]
        rw [Nat.add_mul_div_left _ _ hP]
      omega
    refine ⟨i, hi, ?_⟩
    unfold longB
    rw [codeT_one (by omega), bitsB_size, bitsB_size, e, extract_list, bitsB_list, bitsL_take _ _ _ (by omega), Bool.and_eq_true, decide_eq_true_iff, beq_iff_eq]
    refine ⟨by omega, ?_⟩
    rw [hpi, Nat.div_div_eq_div_mul, ← Nat.pow_add, show 15 - (q + 1) + (q + 1 - L) = 15 - L from by omega, Nat.mul_div_cancel _ (Nat.two_pow_pos _)]

theorem letB_bits (x L b : Nat) (hb : b < 2) : letB (bitsB x L) b = bitsB (2 * x + b) (L + 1) := by
  unfold letB
  apply ByteArray.ext
  rw [ByteArray.data_append]
  have e1 : ((⟨#[48, 49]⟩ : ByteArray).extract b (b + 1)).data = #[UInt8.ofNat (48 + b)] := by
    rcases (by omega : b = 0 ∨ b = 1) with e | e
    · subst e; decide
    · subst e; decide
  rw [e1]
  show (bitsL x L).toArray ++ _ = (bitsL (2 * x + b) (L + 1)).toArray
  rw [bitsL_succ, show (2 * x + b) / 2 = x from by omega, show (2 * x + b) % 2 = b from by omega]
  simp

/-- L letters are read, and they are no code. -/
structure SymSt (z : Nat → Int) (n L x : Nat) : Prop where
  le : L ≤ 15
  lt : x < 2 ^ L
  top : topN (cntN z n) L ≤ x
  none : hitF (codeT z n) (bitsB x L) n 0 = none

theorem SymSt.start (z : Nat → Int) (n : Nat) : SymSt z n 0 0 := by
  refine ⟨by omega, by decide, by simp [topN], ?_⟩
  have e : bitsB 0 0 = .empty := rfl
  rw [e]
  exact hitF_none_all n 0 (fun i _ _ => hit_empty _)

theorem SymSt.more {z : Nat → Int} {n L x : Nat} (h : SymSt z n L x) (hp : pas (cntN z n) L < pas (cntN z n) 15) : L < 15 := by
  have h1 := h.le
  by_cases e : L = 15
  · subst e; omega
  · omega

/-- The end of the codes. -/
theorem SymSt.stop {z : Nat → Int} {n L x : Nat} (ht : Tidy z n) (h : SymSt z n L x) (hp : ¬ pas (cntN z n) L < pas (cntN z n) 15) (s : ByteArray) (f : Nat) (σ : St) : symGo s (codeT z n) n (f + 1) (bitsB x L) σ = (-1, stopF σ 1) := by
  simp only [symGo, h.none]
  rw [some_pas ht h.le h.lt h.top, if_neg (by simpa using hp)]

/-- One letter more. -/
theorem SymSt.go {z : Nat → Int} {n L x : Nat} (ht : Tidy z n) (h : SymSt z n L x) (hp : pas (cntN z n) L < pas (cntN z n) 15) (s : ByteArray) (f : Nat) (σ : St) : symGo s (codeT z n) n (f + 1) (bitsB x L) σ = if (bitF s σ).2.why = 0 then symGo s (codeT z n) n f (bitsB (2 * x + (bitF s σ).1) (L + 1)) (bitF s σ).2 else (-1, (bitF s σ).2) := by
  simp only [symGo, h.none]
  rw [some_pas ht h.le h.lt h.top, if_pos (by simpa using hp), letB_bits _ _ _ (bitF_lt s σ)]

theorem SymSt.next {z : Nat → Int} {n L x b : Nat} (ht : Tidy z n) (h : SymSt z n L x) (hp : pas (cntN z n) L < pas (cntN z n) 15) (hb : b < 2) (hx : fi (cntN z n) (L + 1) + cntN z n (L + 1) ≤ 2 * x + b) : SymSt z n (L + 1) (2 * x + b) := by
  have hL := h.more hp
  have hlt : 2 * x + b < 2 ^ (L + 1) := by rw [Nat.pow_succ]; have := h.lt; omega
  exact ⟨by omega, hlt, hx, hitF_out ht (by omega) hlt hx⟩

theorem SymSt.found {z : Nat → Int} {n L x b : Nat} (ht : Tidy z n) (h : SymSt z n L x) (hb : b < 2) {sy : Nat → Nat} (hsy : SyOk z n sy) (hx : 2 * x + b < fi (cntN z n) (L + 1) + cntN z n (L + 1)) (s : ByteArray) (f : Nat) (σ : St) :
    symGo s (codeT z n) n (f + 1) (bitsB (2 * x + b) (L + 1)) σ = (((sy (pas (cntN z n) L + (2 * x + b - fi (cntN z n) (L + 1))) : Nat) : Int), σ) ∧ sy (pas (cntN z n) L + (2 * x + b - fi (cntN z n) (L + 1))) < n ∧ pas (cntN z n) L + (2 * x + b - fi (cntN z n) (L + 1)) < pas (cntN z n) (L + 1) := by
  have hlt : 2 * x + b < 2 ^ (L + 1) := by rw [Nat.pow_succ]; have := h.lt; omega
  have h1 := h.top
  have h2 := fi_top2 (cntN z n) L
  obtain ⟨i, hi, hzi, hci, hh⟩ := hitF_in ht (L := L + 1) (x := 2 * x + b) (r := 2 * x + b - fi (cntN z n) (L + 1)) (by omega) hlt (by omega) (by omega)
  have e : plc z n i = pas (cntN z n) L + (2 * x + b - fi (cntN z n) (L + 1)) := by
    unfold plc
    have : (z i).toNat = L + 1 := by omega
    rw [this, hci, Nat.add_sub_cancel]
  have h3 := hsy i hi (by omega)
  rw [e] at h3
  refine ⟨?_, by rw [h3]; exact hi, by rw [pas_succ]; omega⟩
  simp only [symGo, hh, h3]

end Go.Proofs.YtecddphahiadlaaDoor
