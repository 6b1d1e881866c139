/- What is written bit by bit, into each byte from its lowest bit up: plain reckoning. -/
import Derived.Test.YtnfghnolklhppaaPut
namespace Go.Proofs.Ytnfghnolklhppaa
open Go.RowKit

/-- Byte i of some bits. -/
def byteAt (b : List Nat) (i : Nat) : Nat :=
  b.getD (8 * i) 0 + 2 * b.getD (8 * i + 1) 0 + 4 * b.getD (8 * i + 2) 0 + 8 * b.getD (8 * i + 3) 0 + 16 * b.getD (8 * i + 4) 0 + 32 * b.getD (8 * i + 5) 0 + 64 * b.getD (8 * i + 6) 0 + 128 * b.getD (8 * i + 7) 0

def Bs (b : List Nat) : Prop := ∀ x ∈ b, x < 2

theorem Bs.get {b : List Nat} (h : Bs b) (i : Nat) : b.getD i 0 < 2 := by
  rw [List.getD_eq_getElem?_getD]
  cases e : b[i]? with
  | none => simp
  | some x => exact h x (List.mem_of_getElem? e)
theorem Bs.app {a b : List Nat} (ha : Bs a) (hb : Bs b) : Bs (a ++ b) := fun x hx => by
  rcases List.mem_append.1 hx with h | h
  · exact ha x h
  · exact hb x h
theorem Bs.one {x : Nat} (h : x < 2) : Bs [x] := fun y hy => by rw [List.mem_singleton.1 hy]; exact h

theorem byteAt_lt {b : List Nat} (h : Bs b) (i : Nat) : byteAt b i < 256 := by
  have h0 := h.get (8 * i)
  have h1 := h.get (8 * i + 1)
  have h2 := h.get (8 * i + 2)
  have h3 := h.get (8 * i + 3)
  have h4 := h.get (8 * i + 4)
  have h5 := h.get (8 * i + 5)
  have h6 := h.get (8 * i + 6)
  have h7 := h.get (8 * i + 7)
  unfold byteAt
  omega

theorem byteAt_bit {b : List Nat} (h : Bs b) (i r : Nat) (hr : r < 8) : byteAt b i / 2 ^ r % 2 = b.getD (8 * i + r) 0 := by
  have h0 := h.get (8 * i)
  have h1 := h.get (8 * i + 1)
  have h2 := h.get (8 * i + 2)
  have h3 := h.get (8 * i + 3)
  have h4 := h.get (8 * i + 4)
  have h5 := h.get (8 * i + 5)
  have h6 := h.get (8 * i + 6)
  have h7 := h.get (8 * i + 7)
  unfold byteAt
  rcases (by omega : r = 0 ∨ r = 1 ∨ r = 2 ∨ r = 3 ∨ r = 4 ∨ r = 5 ∨ r = 6 ∨ r = 7) with e | e | e | e | e | e | e | e <;> subst e <;> simp only [Nat.reducePow, Nat.add_zero, Nat.div_one] <;> omega

theorem getD_snoc (b : List Nat) (x k : Nat) : (b ++ [x]).getD k 0 = if k = b.length then x else b.getD k 0 := by
  rw [List.getD_eq_getElem?_getD, List.getD_eq_getElem?_getD]
  by_cases h : k < b.length
  · rw [List.getElem?_append_left h, if_neg (by omega)]
  · rw [List.getElem?_append_right (by omega)]
    by_cases e : k = b.length
    · subst e; simp
    · rw [if_neg e, List.getElem?_eq_none (by simp; omega), List.getElem?_eq_none (by omega)]

theorem getD_out (b : List Nat) (k : Nat) (h : b.length ≤ k) : b.getD k 0 = 0 := by
  rw [List.getD_eq_getElem?_getD, List.getElem?_eq_none h]; rfl

theorem byteAt_other (b : List Nat) (x i : Nat) (h : i ≠ b.length / 8) : byteAt (b ++ [x]) i = byteAt b i := by
  unfold byteAt
  simp only [getD_snoc]
  repeat rw [if_neg (by omega)]
theorem byteAt_same (b : List Nat) (x : Nat) : byteAt (b ++ [x]) (b.length / 8) = byteAt b (b.length / 8) + x * 2 ^ (b.length % 8) := by
  have key : ∀ k, b.length ≤ k → b.getD k 0 = 0 := getD_out b
  unfold byteAt
  simp only [getD_snoc]
  generalize hn : b.length = n at *
  obtain ⟨q, r, hr, rfl⟩ : ∃ q r, r < 8 ∧ n = 8 * q + r := ⟨n / 8, n % 8, by omega, by omega⟩
  have e1 : (8 * q + r) / 8 = q := by omega
  have e2 : (8 * q + r) % 8 = r := by omega
  rw [e1, e2]
  rcases (by omega : r = 0 ∨ r = 1 ∨ r = 2 ∨ r = 3 ∨ r = 4 ∨ r = 5 ∨ r = 6 ∨ r = 7) with e | e | e | e | e | e | e | e
  · subst e
    have k0 := key (8 * q) (by omega)
    have k1 := key (8 * q + 1) (by omega)
    have k2 := key (8 * q + 2) (by omega)
    have k3 := key (8 * q + 3) (by omega)
    have k4 := key (8 * q + 4) (by omega)
    have k5 := key (8 * q + 5) (by omega)
    have k6 := key (8 * q + 6) (by omega)
    have k7 := key (8 * q + 7) (by omega)
    simp only [List.getD_eq_getElem?_getD] at k0 k1 k2 k3 k4 k5 k6 k7
    simp
    omega
  · subst e
    have k1 := key (8 * q + 1) (by omega)
    have k2 := key (8 * q + 2) (by omega)
    have k3 := key (8 * q + 3) (by omega)
    have k4 := key (8 * q + 4) (by omega)
    have k5 := key (8 * q + 5) (by omega)
    have k6 := key (8 * q + 6) (by omega)
    have k7 := key (8 * q + 7) (by omega)
    simp only [List.getD_eq_getElem?_getD] at k1 k2 k3 k4 k5 k6 k7
    simp
    omega
  · subst e
    have k2 := key (8 * q + 2) (by omega)
    have k3 := key (8 * q + 3) (by omega)
    have k4 := key (8 * q + 4) (by omega)
    have k5 := key (8 * q + 5) (by omega)
    have k6 := key (8 * q + 6) (by omega)
    have k7 := key (8 * q + 7) (by omega)
    simp only [List.getD_eq_getElem?_getD] at k2 k3 k4 k5 k6 k7
    simp
    omega
  · subst e
    have k3 := key (8 * q + 3) (by omega)
    have k4 := key (8 * q + 4) (by omega)
    have k5 := key (8 * q + 5) (by omega)
    have k6 := key (8 * q + 6) (by omega)
    have k7 := key (8 * q + 7) (by omega)
    simp only [List.getD_eq_getElem?_getD] at k3 k4 k5 k6 k7
    simp
    omega
  · subst e
    have k4 := key (8 * q + 4) (by omega)
    have k5 := key (8 * q + 5) (by omega)
    have k6 := key (8 * q + 6) (by omega)
    have k7 := key (8 * q + 7) (by omega)
    simp only [List.getD_eq_getElem?_getD] at k4 k5 k6 k7
    simp
    omega
  · subst e
    have k5 := key (8 * q + 5) (by omega)
    have k6 := key (8 * q + 6) (by omega)
    have k7 := key (8 * q + 7) (by omega)
    simp only [List.getD_eq_getElem?_getD] at k5 k6 k7
    simp
    omega
  · subst e
    have k6 := key (8 * q + 6) (by omega)
    have k7 := key (8 * q + 7) (by omega)
    simp only [List.getD_eq_getElem?_getD] at k6 k7
    simp
    omega
  · subst e
    have k7 := key (8 * q + 7) (by omega)
    simp only [List.getD_eq_getElem?_getD] at k7
    simp
    omega
theorem byteAt_low {b : List Nat} (h : Bs b) : byteAt b (b.length / 8) < 2 ^ (b.length % 8) := by
  have key : ∀ k, b.length ≤ k → b.getD k 0 = 0 := getD_out b
  unfold byteAt
  generalize hn : b.length = n at *
  obtain ⟨q, r, hr, rfl⟩ : ∃ q r, r < 8 ∧ n = 8 * q + r := ⟨n / 8, n % 8, by omega, by omega⟩
  have e1 : (8 * q + r) / 8 = q := by omega
  have e2 : (8 * q + r) % 8 = r := by omega
  rw [e1, e2]
  rcases (by omega : r = 0 ∨ r = 1 ∨ r = 2 ∨ r = 3 ∨ r = 4 ∨ r = 5 ∨ r = 6 ∨ r = 7) with e | e | e | e | e | e | e | e
  · subst e
    have k0 := key (8 * q) (by omega)
    have k1 := key (8 * q + 1) (by omega)
    have k2 := key (8 * q + 2) (by omega)
    have k3 := key (8 * q + 3) (by omega)
    have k4 := key (8 * q + 4) (by omega)
    have k5 := key (8 * q + 5) (by omega)
    have k6 := key (8 * q + 6) (by omega)
    have k7 := key (8 * q + 7) (by omega)
    simp only [Nat.reducePow]
    omega
  · subst e
    have k1 := key (8 * q + 1) (by omega)
    have k2 := key (8 * q + 2) (by omega)
    have k3 := key (8 * q + 3) (by omega)
    have k4 := key (8 * q + 4) (by omega)
    have k5 := key (8 * q + 5) (by omega)
    have k6 := key (8 * q + 6) (by omega)
    have k7 := key (8 * q + 7) (by omega)
    have b0 := h.get (8 * q)
    simp only [Nat.reducePow]
    omega
  · subst e
    have k2 := key (8 * q + 2) (by omega)
    have k3 := key (8 * q + 3) (by omega)
    have k4 := key (8 * q + 4) (by omega)
    have k5 := key (8 * q + 5) (by omega)
    have k6 := key (8 * q + 6) (by omega)
    have k7 := key (8 * q + 7) (by omega)
    have b0 := h.get (8 * q)
    have b1 := h.get (8 * q + 1)
    simp only [Nat.reducePow]
    omega
  · subst e
    have k3 := key (8 * q + 3) (by omega)
    have k4 := key (8 * q + 4) (by omega)
    have k5 := key (8 * q + 5) (by omega)
    have k6 := key (8 * q + 6) (by omega)
    have k7 := key (8 * q + 7) (by omega)
    have b0 := h.get (8 * q)
    have b1 := h.get (8 * q + 1)
    have b2 := h.get (8 * q + 2)
    simp only [Nat.reducePow]
    omega
  · subst e
    have k4 := key (8 * q + 4) (by omega)
    have k5 := key (8 * q + 5) (by omega)
    have k6 := key (8 * q + 6) (by omega)
    have k7 := key (8 * q + 7) (by omega)
    have b0 := h.get (8 * q)
    have b1 := h.get (8 * q + 1)
    have b2 := h.get (8 * q + 2)
    have b3 := h.get (8 * q + 3)
    simp only [Nat.reducePow]
    omega
  · subst e
    have k5 := key (8 * q + 5) (by omega)
    have k6 := key (8 * q + 6) (by omega)
    have k7 := key (8 * q + 7) (by omega)
    have b0 := h.get (8 * q)
    have b1 := h.get (8 * q + 1)
    have b2 := h.get (8 * q + 2)
    have b3 := h.get (8 * q + 3)
    have b4 := h.get (8 * q + 4)
    simp only [Nat.reducePow]
    omega
  · subst e
    have k6 := key (8 * q + 6) (by omega)
    have k7 := key (8 * q + 7) (by omega)
    have b0 := h.get (8 * q)
    have b1 := h.get (8 * q + 1)
    have b2 := h.get (8 * q + 2)
    have b3 := h.get (8 * q + 3)
    have b4 := h.get (8 * q + 4)
    have b5 := h.get (8 * q + 5)
    simp only [Nat.reducePow]
    omega
  · subst e
    have k7 := key (8 * q + 7) (by omega)
    have b0 := h.get (8 * q)
    have b1 := h.get (8 * q + 1)
    have b2 := h.get (8 * q + 2)
    have b3 := h.get (8 * q + 3)
    have b4 := h.get (8 * q + 4)
    have b5 := h.get (8 * q + 5)
    have b6 := h.get (8 * q + 6)
    simp only [Nat.reducePow]
    omega

end Go.Proofs.Ytnfghnolklhppaa
