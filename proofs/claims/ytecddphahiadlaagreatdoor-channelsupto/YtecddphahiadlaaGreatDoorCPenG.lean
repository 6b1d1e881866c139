import Derived.Test.YtecddphahiadlaaGreatDoorCRunF
import Derived.Test.YtecddphahiadlaaGreatDoorCPut
import Derived.Test.YtecddphahiadlaaGreatDoorCGSymr
/- A stream of blocks of kind 0: plain reckoning. -/
namespace Go.Proofs.YtecddphahiadlaaGreatDoor
open Go.RowKit
theorem numF_byte (s : ByteArray) (tx : List UInt8) (fin : Bool) (p : Nat) (hp : p < s.size) : ∀ (n r : Nat), r + n ≤ 8 → numF s n ⟨8 * p + r, tx, 0, fin⟩ = ((s.data.toList.getD p 0).toNat / 2 ^ r % 2 ^ n, ⟨8 * p + r + n, tx, 0, fin⟩)
 | 0, r, _ => by simp [numF, Nat.mod_one]
 |
  n + 1, r, h => by
  have hg : bitF s ⟨8 * p + r, tx, 0, fin⟩ = (bitOf s (8 * p + r), ⟨8 * p + (r + 1), tx, 0, fin⟩) := bitF_go rfl (by show 8 * p + r < 8 * s.size; omega)
  have ih := numF_byte s tx fin p hp n (r + 1) (by omega)
  have e1 : (8 * p + r) / 8 = p := by omega
  have e2 : (8 * p + r) % 8 = r := by omega
  simp only [numF, hg, ih, bitOf, e1, e2]
  generalize (s.data.toList.getD p 0).toNat = b
  have e3 : b / 2 ^ (r + 1) = b / 2 ^ r / 2 := by rw [Nat.pow_succ, Nat.div_div_eq_div_mul]
  rw [e3, Nat.pow_succ, Nat.mul_comm (2 ^ n) 2, Nat.mod_mul]
  congr 2
  omega
theorem num8 (s : ByteArray) (tx : List UInt8) (fin : Bool) (p : Nat) (hp : p < s.size) : numF s 8 ⟨8 * p, tx, 0, fin⟩ = ((s.data.toList.getD p 0).toNat, ⟨8 * (p + 1), tx, 0, fin⟩) := by
 have h := numF_byte s tx fin p hp 8 0 (by omega)
 rw [show 8 * p + 0 = 8 * p by omega] at h
 rw [h]
 have hb := (s.data.toList.getD p 0).toNat_lt
 simp
 omega
/-- From byte p on s holds these bytes. -/
def HasAt (s : ByteArray) (p : Nat) (x : List UInt8) : Prop := p + x.length ≤ s.size ∧ ∀ j, j < x.length → s.data.toList.getD (p + j) 0 = x.getD j 0
theorem HasAt.tail {s : ByteArray} {p : Nat} {c : UInt8} {x : List UInt8} (h : HasAt s p (c :: x)) : HasAt s (p + 1) x :=
 ⟨by have := h.1; simp at this; omega, fun j hj => by have := h.2 (j + 1) (by simp; omega); rw [show p + 1 + j = p + (j + 1) by omega]; simpa using this⟩
theorem HasAt.head {s : ByteArray} {p : Nat} {c : UInt8} {x : List UInt8} (h : HasAt s p (c :: x)) : p < s.size ∧ s.data.toList.getD p 0 = c :=
 ⟨by have := h.1; simp at this; omega, by have := h.2 0 (by simp); simpa using this⟩
theorem bytes_run (s : ByteArray) (fin : Bool) : ∀ (x : List UInt8) (p : Nat) (tx : List UInt8), HasAt s p x → tx.length + x.length ≤ 5000 → bytesF s x.length ⟨8 * p, tx, 0, fin⟩ = ⟨8 * (p + x.length), tx ++ x, 0, fin⟩
 | [], p, tx, _, _ => by simp [bytesF]
 |
  c :: x, p, tx, h, hl => by
  obtain ⟨h1, h2⟩ := h.head
  have h8 := num8 s tx fin p h1
  rw [h2] at h8
  simp at hl
  have hp : putF ⟨8 * (p + 1), tx, 0, fin⟩ (UInt8.ofNat c.toNat) = ⟨8 * (p + 1), tx ++ [c], 0, fin⟩ := by
   unfold putF
   rw [if_neg (by simp), if_neg (by show ¬ tx.length = 5000; omega)]
   simp
  have ih := bytes_run s fin x (p + 1) (tx ++ [c]) h.tail (by simp; omega)
  show bytesF s (x.length + 1) _ = _
  simp only [bytesF, h8, hp, ih]
  simp
  omega
theorem HasAt.left {s : ByteArray} {x y : List UInt8} (h : HasAt s 0 (x ++ y)) : HasAt s 0 x :=
 ⟨by have := h.1; simp at this; simp; omega, fun j hj => by
  have e := h.2 j (by simp; omega)
  rw [List.getD_eq_getElem?_getD (l := x ++ y), List.getElem?_append_left hj] at e
  rw [e, List.getD_eq_getElem?_getD]⟩
theorem HasAt.right {s : ByteArray} {x y : List UInt8} (h : HasAt s 0 (x ++ y)) : HasAt s x.length y :=
 ⟨by have := h.1; simp at this; omega, fun j hj => by
  have e := h.2 (x.length + j) (by simp; omega)
  rw [Nat.zero_add, List.getD_eq_getElem?_getD (l := x ++ y), List.getElem?_append_right (by omega)] at e
  rw [e, List.getD_eq_getElem?_getD, Nat.add_sub_cancel_left]⟩
theorem HasAt.self (x : List UInt8) : HasAt ⟨x.toArray⟩ 0 x := ⟨by simp [ByteArray.size], fun j _ => by simp⟩
/- What is written bit by bit, into each byte from its lowest bit up: plain reckoning. -/
/-- Byte i of some bits. -/
def byteAt (b : List Nat) (i : Nat) : Nat :=
 b.getD (8 * i) 0 + 2 * b.getD (8 * i + 1) 0 + 4 * b.getD (8 * i + 2) 0 + 8 * b.getD (8 * i + 3) 0 + 16 * b.getD (8 * i + 4) 0 + 32 * b.getD (8 * i + 5) 0 + 64 * b.getD (8 * i + 6) 0 + 128 * b.getD (8 * i + 7) 0
def Bs (b : List Nat) : Prop := ∀ x ∈ b, x < 2
theorem Bs.get {b : List Nat} (h : Bs b) (i : Nat) : b.getD i 0 < 2 := by
 rw [List.getD_eq_getElem?_getD]
 cases e : b[i]? with
 | none => simp
 | some x => exact h x (List.mem_of_getElem? e)
theorem Bs.app {a b : List Nat} (ha : Bs a) (hb : Bs b) : Bs (a ++ b) := fun x hx => by
 rcases List.mem_append.1 hx with h | h
 · exact ha x h
 · exact hb x h
theorem Bs.one {x : Nat} (h : x < 2) : Bs [x] := fun y hy => by rw [List.mem_singleton.1 hy]; exact h
theorem byteAt_bit {b : List Nat} (h : Bs b) (i r : Nat) (hr : r < 8) : byteAt b i / 2 ^ r % 2 = b.getD (8 * i + r) 0 := by
 have h0 := h.get (8 * i)
 have h1 := h.get (8 * i + 1)
 have h2 := h.get (8 * i + 2)
 have h3 := h.get (8 * i + 3)
 have h4 := h.get (8 * i + 4)
 have h5 := h.get (8 * i + 5)
 have h6 := h.get (8 * i + 6)
 have h7 := h.get (8 * i + 7)
 unfold byteAt
 rcases (by omega : r = 0 ∨ r = 1 ∨ r = 2 ∨ r = 3 ∨ r = 4 ∨ r = 5 ∨ r = 6 ∨ r = 7) with e | e | e | e | e | e | e | e <;> subst e <;> simp only [Nat.reducePow, Nat.add_zero, Nat.div_one] <;> omega
theorem getD_snoc (b : List Nat) (x k : Nat) : (b ++ [x]).getD k 0 = if k = b.length then x else b.getD k 0 := by
 rw [List.getD_eq_getElem?_getD, List.getD_eq_getElem?_getD]
 by_cases h : k < b.length
 · rw [List.getElem?_append_left h, if_neg (by omega)]
 ·
  rw [List.getElem?_append_right (by omega)]
  by_cases e : k = b.length
  · subst e; simp
  · rw [if_neg e, List.getElem?_eq_none (by simp; omega), List.getElem?_eq_none (by omega)]
theorem getD_out (b : List Nat) (k : Nat) (h : b.length ≤ k) : b.getD k 0 = 0 := by
 rw [List.getD_eq_getElem?_getD, List.getElem?_eq_none h]; rfl
theorem byteAt_other (b : List Nat) (x i : Nat) (h : i ≠ b.length / 8) : byteAt (b ++ [x]) i = byteAt b i := by
 unfold byteAt
 simp only [getD_snoc]
 repeat rw [if_neg (by omega)]
theorem byteAt_same (b : List Nat) (x : Nat) : byteAt (b ++ [x]) (b.length / 8) = byteAt b (b.length / 8) + x * 2 ^ (b.length % 8) := by
 have key : ∀ k, b.length ≤ k → b.getD k 0 = 0 := getD_out b
 unfold byteAt
 simp only [getD_snoc]
 generalize hn : b.length = n at *
 obtain ⟨q, r, hr, rfl⟩ : ∃ q r, r < 8 ∧ n = 8 * q + r := ⟨n / 8, n % 8, by omega, by omega⟩
 have e1 : (8 * q + r) / 8 = q := by omega
 have e2 : (8 * q + r) % 8 = r := by omega
 rw [e1, e2]
 rcases (by omega : r = 0 ∨ r = 1 ∨ r = 2 ∨ r = 3 ∨ r = 4 ∨ r = 5 ∨ r = 6 ∨ r = 7) with e | e | e | e | e | e | e | e
 ·
  subst e
  have k0 := key (8 * q) (by omega)
  have k1 := key (8 * q + 1) (by omega)
  have k2 := key (8 * q + 2) (by omega)
  have k3 := key (8 * q + 3) (by omega)
  have k4 := key (8 * q + 4) (by omega)
  have k5 := key (8 * q + 5) (by omega)
  have k6 := key (8 * q + 6) (by omega)
  have k7 := key (8 * q + 7) (by omega)
  simp only [List.getD_eq_getElem?_getD] at k0 k1 k2 k3 k4 k5 k6 k7
  simp
  omega
 ·
  subst e
  have k1 := key (8 * q + 1) (by omega)
  have k2 := key (8 * q + 2) (by omega)
  have k3 := key (8 * q + 3) (by omega)
  have k4 := key (8 * q + 4) (by omega)
  have k5 := key (8 * q + 5) (by omega)
  have k6 := key (8 * q + 6) (by omega)
  have k7 := key (8 * q + 7) (by omega)
  simp only [List.getD_eq_getElem?_getD] at k1 k2 k3 k4 k5 k6 k7
  simp
  omega
 ·
  subst e
  have k2 := key (8 * q + 2) (by omega)
  have k3 := key (8 * q + 3) (by omega)
  have k4 := key (8 * q + 4) (by omega)
  have k5 := key (8 * q + 5) (by omega)
  have k6 := key (8 * q + 6) (by omega)
  have k7 := key (8 * q + 7) (by omega)
  simp only [List.getD_eq_getElem?_getD] at k2 k3 k4 k5 k6 k7
  simp
  omega
 ·
  subst e
  have k3 := key (8 * q + 3) (by omega)
  have k4 := key (8 * q + 4) (by omega)
  have k5 := key (8 * q + 5) (by omega)
  have k6 := key (8 * q + 6) (by omega)
  have k7 := key (8 * q + 7) (by omega)
  simp only [List.getD_eq_getElem?_getD] at k3 k4 k5 k6 k7
  simp
  omega
 ·
  subst e
  have k4 := key (8 * q + 4) (by omega)
  have k5 := key (8 * q + 5) (by omega)
  have k6 := key (8 * q + 6) (by omega)
  have k7 := key (8 * q + 7) (by omega)
  simp only [List.getD_eq_getElem?_getD] at k4 k5 k6 k7
  simp
  omega
 ·
  subst e
  have k5 := key (8 * q + 5) (by omega)
  have k6 := key (8 * q + 6) (by omega)
  have k7 := key (8 * q + 7) (by omega)
  simp only [List.getD_eq_getElem?_getD] at k5 k6 k7
  simp
  omega
 ·
  subst e
  have k6 := key (8 * q + 6) (by omega)
  have k7 := key (8 * q + 7) (by omega)
  simp only [List.getD_eq_getElem?_getD] at k6 k7
  simp
  omega
 ·
  subst e
  have k7 := key (8 * q + 7) (by omega)
  simp only [List.getD_eq_getElem?_getD] at k7
  simp
  omega
theorem byteAt_low {b : List Nat} (h : Bs b) : byteAt b (b.length / 8) < 2 ^ (b.length % 8) := by
 have key : ∀ k, b.length ≤ k → b.getD k 0 = 0 := getD_out b
 unfold byteAt
 generalize hn : b.length = n at *
 obtain ⟨q, r, hr, rfl⟩ : ∃ q r, r < 8 ∧ n = 8 * q + r := ⟨n / 8, n % 8, by omega, by omega⟩
 have e1 : (8 * q + r) / 8 = q := by omega
 have e2 : (8 * q + r) % 8 = r := by omega
 rw [e1, e2]
 rcases (by omega : r = 0 ∨ r = 1 ∨ r = 2 ∨ r = 3 ∨ r = 4 ∨ r = 5 ∨ r = 6 ∨ r = 7) with e | e | e | e | e | e | e | e
 ·
  subst e
  have k0 := key (8 * q) (by omega)
  have k1 := key (8 * q + 1) (by omega)
  have k2 := key (8 * q + 2) (by omega)
  have k3 := key (8 * q + 3) (by omega)
  have k4 := key (8 * q + 4) (by omega)
  have k5 := key (8 * q + 5) (by omega)
  have k6 := key (8 * q + 6) (by omega)
  have k7 := key (8 * q + 7) (by omega)
  simp only [Nat.reducePow]
  omega
 ·
  subst e
  have k1 := key (8 * q + 1) (by omega)
  have k2 := key (8 * q + 2) (by omega)
  have k3 := key (8 * q + 3) (by omega)
  have k4 := key (8 * q + 4) (by omega)
  have k5 := key (8 * q + 5) (by omega)
  have k6 := key (8 * q + 6) (by omega)
  have k7 := key (8 * q + 7) (by omega)
  have b0 := h.get (8 * q)
  simp only [Nat.reducePow]
  omega
 ·
  subst e
  have k2 := key (8 * q + 2) (by omega)
  have k3 := key (8 * q + 3) (by omega)
  have k4 := key (8 * q + 4) (by omega)
  have k5 := key (8 * q + 5) (by omega)
  have k6 := key (8 * q + 6) (by omega)
  have k7 := key (8 * q + 7) (by omega)
  have b0 := h.get (8 * q)
  have b1 := h.get (8 * q + 1)
  simp only [Nat.reducePow]
  omega
 ·
  subst e
  have k3 := key (8 * q + 3) (by omega)
  have k4 := key (8 * q + 4) (by omega)
  have k5 := key (8 * q + 5) (by omega)
  have k6 := key (8 * q + 6) (by omega)
  have k7 := key (8 * q + 7) (by omega)
  have b0 := h.get (8 * q)
  have b1 := h.get (8 * q + 1)
  have b2 := h.get (8 * q + 2)
  simp only [Nat.reducePow]
  omega
 ·
  subst e
  have k4 := key (8 * q + 4) (by omega)
  have k5 := key (8 * q + 5) (by omega)
  have k6 := key (8 * q + 6) (by omega)
  have k7 := key (8 * q + 7) (by omega)
  have b0 := h.get (8 * q)
  have b1 := h.get (8 * q + 1)
  have b2 := h.get (8 * q + 2)
  have b3 := h.get (8 * q + 3)
  simp only [Nat.reducePow]
  omega
 ·
  subst e
  have k5 := key (8 * q + 5) (by omega)
  have k6 := key (8 * q + 6) (by omega)
  have k7 := key (8 * q + 7) (by omega)
  have b0 := h.get (8 * q)
  have b1 := h.get (8 * q + 1)
  have b2 := h.get (8 * q + 2)
  have b3 := h.get (8 * q + 3)
  have b4 := h.get (8 * q + 4)
  simp only [Nat.reducePow]
  omega
 ·
  subst e
  have k6 := key (8 * q + 6) (by omega)
  have k7 := key (8 * q + 7) (by omega)
  have b0 := h.get (8 * q)
  have b1 := h.get (8 * q + 1)
  have b2 := h.get (8 * q + 2)
  have b3 := h.get (8 * q + 3)
  have b4 := h.get (8 * q + 4)
  have b5 := h.get (8 * q + 5)
  simp only [Nat.reducePow]
  omega
 ·
  subst e
  have k7 := key (8 * q + 7) (by omega)
  have b0 := h.get (8 * q)
  have b1 := h.get (8 * q + 1)
  have b2 := h.get (8 * q + 2)
  have b3 := h.get (8 * q + 3)
  have b4 := h.get (8 * q + 4)
  have b5 := h.get (8 * q + 5)
  have b6 := h.get (8 * q + 6)
  simp only [Nat.reducePow]
  omega
/- Bytes of bits, and how they are read back: plain reckoning. -/
/-- These bytes are those of the bits. -/
structure PB (bs : List UInt8) (b : List Nat) : Prop where
 bits : Bs b
 len : bs.length = (b.length + 7) / 8
 val : ∀ i, i < bs.length → (bs.getD i 0).toNat = byteAt b i
/-- .. and the next bit's byte is begun. -/
structure PO (bs : List UInt8) (b : List Nat) : Prop where
 bits : Bs b
 len : bs.length = b.length / 8 + 1
 val : ∀ i, i < bs.length → (bs.getD i 0).toNat = byteAt b i
theorem PB.start : PB [] [] := ⟨fun x h => by simp at h, rfl, fun i h => by simp at h⟩
theorem PB.open0 {bs : List UInt8} {b : List Nat} (h : PB bs b) (h0 : b.length % 8 = 0) : PO (bs ++ [0]) b := by
 have hl := h.len
 have hz := byteAt_low h.bits
 rw [h0] at hz
 refine ⟨h.bits, by simp; omega, fun i hi => ?_⟩
 simp at hi
 rw [List.getD_eq_getElem?_getD]
 by_cases e : i < bs.length
 · rw [List.getElem?_append_left e, ← List.getD_eq_getElem?_getD]; exact h.val i e
 ·
  have e2 : i = bs.length := by omega
  have e3 : i = b.length / 8 := by omega
  rw [List.getElem?_append_right (by omega), e3]
  have : byteAt b (b.length / 8) = 0 := by omega
  rw [this]
  have e4 : b.length / 8 - bs.length = 0 := by omega
  rw [e4]; rfl
theorem PB.open1 {bs : List UInt8} {b : List Nat} (h : PB bs b) (h0 : b.length % 8 ≠ 0) : PO bs b := ⟨h.bits, by have := h.len; omega, h.val⟩
theorem PO.put {bs : List UInt8} {b : List Nat} (h : PO bs b) {x : Nat} (hx : x < 2) {c : UInt8} (hc : c.toNat = (bs.getD (bs.length - 1) 0).toNat + x * 2 ^ (b.length % 8)) : PB (bs.set (bs.length - 1) c) (b ++ [x]) := by
 have hl := h.len
 have e0 : bs.length - 1 = b.length / 8 := by omega
 refine ⟨h.bits.app (Bs.one hx), by simp; omega, fun i hi => ?_⟩
 rw [List.length_set] at hi
 rw [List.getD_eq_getElem?_getD, List.getElem?_set]
 by_cases e : bs.length - 1 = i
 ·
  rw [if_pos e, if_pos (by omega)]
  subst e
  show c.toNat = _
  rw [hc, h.val _ (by omega), e0, byteAt_same]
 ·
  rw [if_neg e, ← List.getD_eq_getElem?_getD, byteAt_other _ _ _ (by omega)]
  exact h.val i hi
theorem byteAt_pad (b : List Nat) (k i : Nat) : byteAt (b ++ List.replicate k 0) i = byteAt b i := by
 have e : ∀ j, (b ++ List.replicate k 0).getD j 0 = b.getD j 0 := fun j => by
  rw [List.getD_eq_getElem?_getD, List.getD_eq_getElem?_getD]
  by_cases h : j < b.length
  · rw [List.getElem?_append_left h]
  ·
   rw [List.getElem?_append_right (by omega), List.getElem?_eq_none (by omega : b.length ≤ j), List.getElem?_replicate]
   split <;> rfl
 unfold byteAt
 simp only [e]
theorem PB.whole {bs : List UInt8} {b : List Nat} (h : PB bs b) {k : Nat} (hk : (b.length + k) % 8 = 0) (hk8 : k < 8) : PB bs (b ++ List.replicate k 0) := by
 refine ⟨h.bits.app (fun x hx => by rw [(List.mem_replicate.1 hx).2]; omega), ?_, fun i hi => ?_⟩
 ·
  have := h.len
  simp
  omega
 · rw [byteAt_pad]; exact h.val i hi
/-- From bit p on s holds these bits. -/
def HasBits (s : ByteArray) (p : Nat) (b : List Nat) : Prop := p + b.length ≤ 8 * s.size ∧ ∀ j, j < b.length → bitOf s (p + j) = b.getD j 0
theorem HasBits.left {s : ByteArray} {p : Nat} {a b : List Nat} (h : HasBits s p (a ++ b)) : HasBits s p a := by
 refine ⟨by have := h.1; simp at this; omega, fun j hj => ?_⟩
 have e := h.2 j (by simp; omega)
 rw [e, List.getD_eq_getElem?_getD, List.getElem?_append_left hj, ← List.getD_eq_getElem?_getD]
theorem HasBits.right {s : ByteArray} {p : Nat} {a b : List Nat} (h : HasBits s p (a ++ b)) : HasBits s (p + a.length) b := by
 refine ⟨by have := h.1; simp at this; omega, fun j hj => ?_⟩
 have e := h.2 (a.length + j) (by simp; omega)
 rw [Nat.add_assoc, e, List.getD_eq_getElem?_getD, List.getElem?_append_right (by omega), Nat.add_sub_cancel_left, ← List.getD_eq_getElem?_getD]
theorem PB.has {bs : List UInt8} {b : List Nat} (h : PB bs b) {s : ByteArray} {r : List UInt8} (hs : s.data.toList = bs ++ r) : HasBits s 0 b := by
 have hl := h.len
 have hz : s.size = bs.length + r.length := by
  have := congrArg List.length hs
  rw [List.length_append, Array.length_toList] at this
  exact this
 refine ⟨by omega, fun j hj => ?_⟩
 unfold bitOf
 rw [Nat.zero_add, hs, List.getD_eq_getElem?_getD, List.getElem?_append_left (by omega), ← List.getD_eq_getElem?_getD, h.val _ (by omega), byteAt_bit h.bits _ _ (by omega)]
 congr 1
 omega
theorem bit_read {s : ByteArray} {p x : Nat} {b : List Nat} (h : HasBits s p (x :: b)) (tx : List UInt8) (fin : Bool) : bitF s ⟨p, tx, 0, fin⟩ = (x, ⟨p + 1, tx, 0, fin⟩) := by
 have h1 := h.1
 simp at h1
 have h2 := h.2 0 (by simp)
 rw [Nat.add_zero] at h2
 rw [bitF_go rfl (by show p < 8 * s.size; omega)]
 show (bitOf s p, _) = _
 rw [h2]
 rfl
theorem HasBits.tail {s : ByteArray} {p x : Nat} {b : List Nat} (h : HasBits s p (x :: b)) : HasBits s (p + 1) b := by
 have : HasBits s p ([x] ++ b) := h
 exact this.right
/-- A number of n bits, its lowest first. -/
def numB (v n : Nat) : List Nat := (List.range n).map fun i => v / 2 ^ i % 2
theorem numB_length (v n : Nat) : (numB v n).length = n := by simp [numB]
theorem numB_snoc (v n : Nat) : numB v (n + 1) = numB v n ++ [v / 2 ^ n % 2] := by simp [numB, List.range_succ]
theorem numB_cons (v n : Nat) : numB v (n + 1) = v % 2 :: numB (v / 2) n := by
 unfold numB
 rw [List.range_succ_eq_map]
 simp
 intro i _
 rw [Nat.div_div_eq_div_mul, Nat.pow_succ, Nat.mul_comm]
theorem numB_bs (v n : Nat) : Bs (numB v n) := fun x hx => by
 obtain ⟨i, _, rfl⟩ := List.mem_map.1 hx
 exact Nat.mod_lt _ (by omega)
theorem num_read {s : ByteArray} (tx : List UInt8) (fin : Bool) : ∀ (n v p : Nat), v < 2 ^ n → HasBits s p (numB v n) → numF s n ⟨p, tx, 0, fin⟩ = (v, ⟨p + n, tx, 0, fin⟩)
 |
  0, v, p, hv, _ => by
  have : v = 0 := by simpa using hv
  subst this; rfl
 |
  n + 1, v, p, hv, h => by
  rw [numB_cons] at h
  have h1 := bit_read h tx fin
  have ih := num_read tx fin n (v / 2) (p + 1) (by rw [Nat.pow_succ] at hv; omega) h.tail
  simp only [numF, h1, ih]
  congr 1
  · omega
  · congr 1; omega
/-- A code, its first letter first. -/
def codeB (x m : Nat) : List Nat := (List.range m).map fun i => bitAt x m i
theorem codeB_length (x m : Nat) : (codeB x m).length = m := by simp [codeB]
theorem codeB_bs (x m : Nat) : Bs (codeB x m) := fun y hy => by
 obtain ⟨i, _, rfl⟩ := List.mem_map.1 hy
 exact bitAt_lt _ _ _
theorem codeB_at {x m j : Nat} (h : j < m) : (codeB x m).getD j 0 = bitAt x m j := by
 rw [List.getD_eq_getElem?_getD]; simp [codeB, h]
theorem code_eq {z : Nat → Int} {n i k : Nat} (h : Full z n) (hi : i < n) (hk : k < n) (hp : (codeT z n k).toList <+: (codeT z n i).toList) : k = i := by
 rcases (by omega : (z k).toNat < (z i).toNat ∨ (z k).toNat = (z i).toNat ∧ k < i ∨ (k = i) ∨ (z i).toNat < (z k).toNat ∨ (z i).toNat = (z k).toNat ∧ i < k) with e | e | e | e | e
 · exact absurd hp (codes_apt h hi hk (Or.inl e)).not1
 · exact absurd hp (codes_apt h hi hk (Or.inr e)).not1
 · exact e
 · exact absurd hp (codes_apt h hk hi (Or.inl e)).not2
 · exact absurd hp (codes_apt h hk hi (Or.inr e)).not2
theorem sym_go {z : Nat → Int} {n i : Nat} (h : Full z n) (hi : i < n) (s : ByteArray) (p : Nat) (tx : List UInt8) (fin : Bool) (hb : HasBits s p (codeB (codeN z n i) (z i).toNat)) :
 ∀ (d L f : Nat), L + d = (z i).toNat → d < f → symGo s (codeT z n) n f (bitsB (codeN z n i / 2 ^ d) L) ⟨p + L, tx, 0, fin⟩ = ((i : Int), ⟨p + (z i).toNat, tx, 0, fin⟩) := by
 obtain ⟨r1, r2, r3⟩ := h.rng hi
 have hci := codeT_eq h hi
 have hxl := codeN_lt h.fit hi (by omega)
 intro d
 induction d with
 |
  zero =>
  intro L f hL hf
  obtain ⟨f, rfl⟩ : ∃ g, f = g + 1 := ⟨f - 1, by omega⟩
  obtain rfl : L = (z i).toNat := by omega
  have hhit : hitB (codeT z n i) (bitsB (codeN z n i) (z i).toNat) = true := by
   rw [hci]
   unfold hitB
   rw [bitsB_list]
   have := bitsL_ne (x := codeN z n i) (m := (z i).toNat) (by omega)
   simp [this]
  have hf1 : hitF (codeT z n) (bitsB (codeN z n i) (z i).toNat) n 0 = some i := by
   refine hitF_one hhit n 0 (by omega) (by omega) (fun j _ hj hh => ?_)
   unfold hitB at hh
   rw [← hci] at hh
   simp only [Bool.and_eq_true, beq_iff_eq] at hh
   exact code_eq h hi (by omega) (by rw [hh.2]; exact List.prefix_refl _)
  simp only [symGo, Nat.pow_zero, Nat.div_one, hf1]
 |
  succ d ih =>
  intro L f hL hf
  obtain ⟨f, rfl⟩ : ∃ g, f = g + 1 := ⟨f - 1, by omega⟩
  have hpre : (bitsL (codeN z n i) (z i).toNat).take L = bitsL (codeN z n i / 2 ^ (d + 1)) L := by
   rw [bitsL_take _ _ _ (by omega), show (z i).toNat - L = d + 1 from by omega]
  have hnone : hitF (codeT z n) (bitsB (codeN z n i / 2 ^ (d + 1)) L) n 0 = none := by
   refine hitF_none_all n 0 (fun j _ hj => ?_)
   rw [Bool.eq_false_iff]
   intro hh
   unfold hitB at hh
   simp only [Bool.and_eq_true, beq_iff_eq] at hh
   have e := hh.2
   rw [bitsB_list, ← hpre] at e
   have e2 : j = i := code_eq h hi (by omega) (by rw [e, hci, bitsB_list]; exact List.take_prefix _ _)
   subst e2
   rw [hci, bitsB_list] at e
   have e3 := congrArg List.length e
   rw [List.length_take, bitsL_length] at e3
   omega
  have hsome : someB (codeT z n) (bitsB (codeN z n i / 2 ^ (d + 1)) L) n = true := by
   rw [some_iff]
   refine ⟨i, hi, ?_⟩
   unfold longB
   rw [hci, bitsB_size, bitsB_size, extract_list, hpre, bitsB_list]
   simp
   omega
  have hbit : bitF s ⟨p + L, tx, 0, fin⟩ = (codeN z n i / 2 ^ d % 2, ⟨p + (L + 1), tx, 0, fin⟩) := by
   have h1 := hb.1
   have h2 := hb.2 L (by rw [codeB_length]; omega)
   rw [codeB_length] at h1
   rw [codeB_at (by omega)] at h2
   rw [bitF_go rfl (by show p + L < 8 * s.size; omega)]
   show (bitOf s (p + L), _) = _
   rw [h2]
   unfold bitAt
   rw [show (z i).toNat - 1 - L = d from by omega]
   rfl
  have hlet : letB (bitsB (codeN z n i / 2 ^ (d + 1)) L) (codeN z n i / 2 ^ d % 2) = bitsB (codeN z n i / 2 ^ d) (L + 1) := by
   rw [letB_bits _ _ _ (Nat.mod_lt _ (by omega))]
   congr 1
   rw [Nat.pow_succ, ← Nat.div_div_eq_div_mul]
   omega
  simp only [symGo, hnone, hsome, hbit, hlet, if_true]
  exact ih (L + 1) f (by omega) (by omega)
theorem sym_read {z : Nat → Int} {n i : Nat} (h : Full z n) (hi : i < n) {s : ByteArray} {p : Nat} (hb : HasBits s p (codeB (codeN z n i) (z i).toNat)) (tx : List UInt8) (fin : Bool) :
 symF s (codeT z n) n ⟨p, tx, 0, fin⟩ = ((i : Int), ⟨p + (z i).toNat, tx, 0, fin⟩) := by
 obtain ⟨r1, r2, r3⟩ := h.rng hi
 have hxl := codeN_lt h.fit hi (by omega)
 have := sym_go h hi s p tx fin hb (z i).toNat 0 17 (by omega) (by omega)
 rw [Nat.div_eq_of_lt hxl, Nat.add_zero] at this
 exact this
end Go.Proofs.YtecddphahiadlaaGreatDoor
