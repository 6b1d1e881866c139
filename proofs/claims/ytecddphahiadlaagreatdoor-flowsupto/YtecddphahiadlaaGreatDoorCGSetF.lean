/- Symbols in the order of their codes: plain reckoning. -/
import Derived.Test.YtecddphahiadlaaGreatDoorCKraft
import Derived.Test.YtecddphahiadlaaGreatDoorCCount
namespace Go.Proofs.YtecddphahiadlaaGreatDoor
open Go.RowKit

/-- How many codes have 1 to l letters. -/
def pas (c : Nat → Nat) : Nat → Nat
  | 0 => 0
  | l + 1 => pas c l + c (l + 1)

theorem pas_succ (c : Nat → Nat) (l : Nat) : pas c (l + 1) = pas c l + c (l + 1) := rfl
theorem pas_mono (c : Nat → Nat) {a b : Nat} (h : a ≤ b) : pas c a ≤ pas c b := by
  induction b with
  | zero => obtain rfl : a = 0 := by omega
            exact Nat.le_refl _
  | succ b ih =>
    by_cases e : a = b + 1
    · rw [e]; exact Nat.le_refl _
    · have := ih (by omega)
      rw [pas_succ]; omega

theorem pas_add (c : Nat → Nat) (v : Int) (m : Nat) : pas (fun l => c l + if v = (l : Int) then 1 else 0) m = pas c m + if 1 ≤ v ∧ v ≤ (m : Int) then 1 else 0 := by
  induction m with
  | zero => rw [if_neg (by omega)]; rfl
  | succ m ih =>
    rw [pas_succ, pas_succ, ih]
    by_cases e : v = ((m + 1 : Nat) : Int)
    · rw [if_neg (by omega), if_pos e, if_pos (by omega)]; omega
    · rw [if_neg e]
      by_cases h1 : 1 ≤ v ∧ v ≤ (m : Int)
      · rw [if_pos h1, if_pos (by omega)]; omega
      · rw [if_neg h1, if_neg (by omega)]; omega

theorem pas_all (z : Nat → Int) (n : Nat) (h : ∀ i, i < n → 0 ≤ z i ∧ z i ≤ 15) : pas (cntN z n) 15 + cntN z n 0 = n := by
  induction n with
  | zero =>
    have : ∀ m, pas (cntN z 0) m = 0 := by
      intro m
      induction m with
      | zero => rfl
      | succ m ih => rw [pas_succ, ih]; simp [cntN]
    rw [this]; rfl
  | succ n ih =>
    have e : cntN z (n + 1) = fun l => cntN z n l + if z n = (l : Int) then 1 else 0 := by
      funext l; rfl
    have hn := h n (by omega)
    have hi := ih (fun i hi => h i (by omega))
    rw [e, pas_add]
    show _ + (cntN z n 0 + if z n = ((0 : Nat) : Int) then 1 else 0) = n + 1
    by_cases h0 : z n = 0
    · rw [if_neg (by omega), if_pos (by omega)]; omega
    · rw [if_pos (by omega), if_neg (by omega)]; omega

/-- Where symbol i stands among those that have codes. -/
def plc (z : Nat → Int) (n i : Nat) : Nat := pas (cntN z n) ((z i).toNat - 1) + cntN z i (z i).toNat

theorem plc_lt {z : Nat → Int} {n i : Nat} (hi : i < n) (h0 : 1 ≤ z i) : plc z n i < pas (cntN z n) (z i).toNat := by
  obtain ⟨q, hq⟩ : ∃ q, (z i).toNat = q + 1 := ⟨(z i).toNat - 1, by omega⟩
  have h1 := cntN_lt z (m := (z i).toNat) hi (by omega)
  unfold plc
  rw [hq] at h1 ⊢
  rw [pas_succ, Nat.add_sub_cancel]
  omega

theorem plc_inj {z : Nat → Int} {n i k : Nat} (hi : i < n) (hk : k < n) (h0 : 1 ≤ z i) (h1 : 1 ≤ z k) (h : plc z n i = plc z n k) : i = k := by
  have a1 := plc_lt hi h0
  have a2 := plc_lt hk h1
  rcases Nat.lt_trichotomy (z i).toNat (z k).toNat with c | c | c
  · have := pas_mono (cntN z n) (show (z i).toNat ≤ (z k).toNat - 1 by omega)
    unfold plc at h a1 a2
    omega
  · unfold plc at h
    rw [c] at h
    rcases Nat.lt_trichotomy i k with e | e | e
    · have := cntN_lt z (m := (z k).toNat) e (by omega); omega
    · exact e
    · have := cntN_lt z (m := (z k).toNat) e (by omega); omega
  · have := pas_mono (cntN z n) (show (z k).toNat ≤ (z i).toNat - 1 by omega)
    unfold plc at h a1 a2
    omega

/-- The symbols that are laid when k of n are gone through. -/
def syF (z : Nat → Int) (n : Nat) : Nat → Nat → Nat
  | 0, _ => 0
  | k + 1, p => if z k ≠ 0 ∧ p = plc z n k then k else syF z n k p

theorem syF_at {z : Nat → Int} {n : Nat} (hz : ∀ i, i < n → 0 ≤ z i) : ∀ (k : Nat), k ≤ n → ∀ i, i < k → 1 ≤ z i → syF z n k (plc z n i) = i
  | 0, _, i, hi, _ => absurd hi (by omega)
  | k + 1, hk, i, hi, h0 => by
    simp only [syF]
    by_cases e : i = k
    · subst e
      rw [if_pos ⟨by omega, rfl⟩]
    · rw [if_neg, syF_at hz k (by omega) i (by omega) h0]
      rintro ⟨a, b⟩
      have := hz k (by omega)
      exact e (plc_inj (by omega) (by omega) h0 (by omega) b)

/-- The symbols with codes are laid so. -/
def SyOk (z : Nat → Int) (n : Nat) (sy : Nat → Nat) : Prop := ∀ i, i < n → 1 ≤ z i → sy (plc z n i) = i

/-- Is there one code, of length 1, or none? -/
def fewB (c : Nat → Nat) : Bool := ((List.range 14).all fun l => c (l + 2) == 0) && decide (c 1 ≤ 1)

theorem fewB_iff (c : Nat → Nat) : fewB c = true ↔ (∀ l, l < 14 → c (l + 2) = 0) ∧ c 1 ≤ 1 := by
  unfold fewB
  rw [Bool.and_eq_true, List.all_eq_true, decide_eq_true_iff]
  exact ⟨fun h => ⟨fun l hl => by simpa using h.1 l (List.mem_range.2 hl), h.2⟩, fun h => ⟨fun l hl => by simpa using h.1 l (List.mem_range.1 hl), h.2⟩⟩

end Go.Proofs.YtecddphahiadlaaGreatDoor
