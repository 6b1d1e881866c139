/- A stream of blocks of kind 0: plain reckoning. -/
import Derived.Test.YtecddphahiadlaaGreatDoorCRunF
namespace Go.Proofs.YtecddphahiadlaaGreatDoor
open Go.RowKit

theorem numF_byte (s : ByteArray) (tx : List UInt8) (fin : Bool) (p : Nat) (hp : p < s.size) : ∀ (n r : Nat), r + n ≤ 8 → numF s n ⟨8 * p + r, tx, 0, fin⟩ = ((s.data.toList.getD p 0).toNat / 2 ^ r % 2 ^ n, ⟨8 * p + r + n, tx, 0, fin⟩)
  | 0, r, _ => by simp [numF, Nat.mod_one]
  | n + 1, r, h => by
    have hg : bitF s ⟨8 * p + r, tx, 0, fin⟩ = (bitOf s (8 * p + r), ⟨8 * p + (r + 1), tx, 0, fin⟩) := bitF_go rfl (by show 8 * p + r < 8 * s.size; omega)
    have ih := numF_byte s tx fin p hp n (r + 1) (by omega)
    have e1 : (8 * p + r) / 8 = p := by omega
    have e2 : (8 * p + r) % 8 = r := by omega
    simp only [numF, hg, ih, bitOf, e1, e2]
    generalize (s.data.toList.getD p 0).toNat = b
    have e3 : b / 2 ^ (r + 1) = b / 2 ^ r / 2 := by rw [Nat.pow_succ, Nat.div_div_eq_div_mul]
    rw [e3, Nat.pow_succ, Nat.mul_comm (2 ^ n) 2, Nat.mod_mul]
    congr 2
    omega

theorem numF_add (s : ByteArray) (b : Nat) : ∀ (a : Nat) (σ : St), numF s (a + b) σ = ((numF s a σ).1 + 2 ^ a * (numF s b (numF s a σ).2).1, (numF s b (numF s a σ).2).2)
  | 0, σ => by simp [numF]
  | a + 1, σ => by
    rw [show a + 1 + b = (a + b) + 1 by omega]
    simp only [numF, numF_add s b a]
    congr 1
    rw [Nat.pow_succ, Nat.mul_add, Nat.mul_comm (2 ^ a) 2, Nat.mul_assoc]
    omega

theorem num8 (s : ByteArray) (tx : List UInt8) (fin : Bool) (p : Nat) (hp : p < s.size) : numF s 8 ⟨8 * p, tx, 0, fin⟩ = ((s.data.toList.getD p 0).toNat, ⟨8 * (p + 1), tx, 0, fin⟩) := by
  have h := numF_byte s tx fin p hp 8 0 (by omega)
  rw [show 8 * p + 0 = 8 * p by omega] at h
  rw [h]
  have hb := (s.data.toList.getD p 0).toNat_lt
  simp
  omega

theorem num16 (s : ByteArray) (tx : List UInt8) (fin : Bool) (p : Nat) (hp : p + 1 < s.size) : numF s 16 ⟨8 * p, tx, 0, fin⟩ = ((s.data.toList.getD p 0).toNat + 256 * (s.data.toList.getD (p + 1) 0).toNat, ⟨8 * (p + 2), tx, 0, fin⟩) := by
  rw [show 16 = 8 + 8 by rfl, numF_add, num8 s tx fin p (by omega)]
  simp only [num8 s tx fin (p + 1) hp]

/-- From byte p on s holds these bytes. -/
def HasAt (s : ByteArray) (p : Nat) (x : List UInt8) : Prop := p + x.length ≤ s.size ∧ ∀ j, j < x.length → s.data.toList.getD (p + j) 0 = x.getD j 0

theorem HasAt.tail {s : ByteArray} {p : Nat} {c : UInt8} {x : List UInt8} (h : HasAt s p (c :: x)) : HasAt s (p + 1) x :=
  ⟨by have := h.1; simp at this; omega, fun j hj => by have := h.2 (j + 1) (by simp; omega); rw [show p + 1 + j = p + (j + 1) by omega]; simpa using this⟩
theorem HasAt.head {s : ByteArray} {p : Nat} {c : UInt8} {x : List UInt8} (h : HasAt s p (c :: x)) : p < s.size ∧ s.data.toList.getD p 0 = c :=
  ⟨by have := h.1; simp at this; omega, by have := h.2 0 (by simp); simpa using this⟩

theorem bytes_run (s : ByteArray) (fin : Bool) : ∀ (x : List UInt8) (p : Nat) (tx : List UInt8), HasAt s p x → tx.length + x.length ≤ 5000 → bytesF s x.length ⟨8 * p, tx, 0, fin⟩ = ⟨8 * (p + x.length), tx ++ x, 0, fin⟩
  | [], p, tx, _, _ => by simp [bytesF]
  | c :: x, p, tx, h, hl => by
    obtain ⟨h1, h2⟩ := h.head
    have h8 := num8 s tx fin p h1
    rw [h2] at h8
    simp at hl
    have hp : putF ⟨8 * (p + 1), tx, 0, fin⟩ (UInt8.ofNat c.toNat) = ⟨8 * (p + 1), tx ++ [c], 0, fin⟩ := by
      unfold putF
      rw [if_neg (by simp), if_neg (by show ¬ tx.length = 5000; omega)]
      simp
    have ih := bytes_run s fin x (p + 1) (tx ++ [c]) h.tail (by simp; omega)
    show bytesF s (x.length + 1) _ = _
    simp only [bytesF, h8, hp, ih]
    simp
    omega

/-- A block of kind 0: its first byte, both numbers, the bytes. -/
theorem head_run {s : ByteArray} {p : Nat} {tx : List UInt8} {l a b c d : UInt8} {x : List UInt8} (h : HasAt s p (l :: a :: b :: c :: d :: x)) (hl : l.toNat < 2) :
    bitF s ⟨8 * p, tx, 0, false⟩ = (l.toNat, ⟨8 * p + 1, tx, 0, false⟩) ∧ numF s 2 ⟨8 * p + 1, tx, 0, false⟩ = (0, ⟨8 * p + 3, tx, 0, false⟩) ∧
    plainHead s ⟨8 * p + 3, tx, 0, false⟩ = (a.toNat + 256 * b.toNat, if a.toNat + 256 * b.toNat + (c.toNat + 256 * d.toNat) ≠ 65535 then ⟨8 * (p + 5), tx, 1, false⟩ else ⟨8 * (p + 5), tx, 0, false⟩) := by
  obtain ⟨q1, q2⟩ := h.head
  obtain ⟨a1, a2⟩ := h.tail.head
  obtain ⟨b1, b2⟩ := h.tail.tail.head
  obtain ⟨c1, c2⟩ := h.tail.tail.tail.head
  obtain ⟨d1, d2⟩ := h.tail.tail.tail.tail.head
  refine ⟨?_, ?_, ?_⟩
  · have e := numF_byte s tx false p q1 1 0 (by omega)
    rw [q2] at e
    have hg : bitF s ⟨8 * p, tx, 0, false⟩ = (bitOf s (8 * p), ⟨8 * p + 1, tx, 0, false⟩) := bitF_go rfl (by show 8 * p < 8 * s.size; omega)
    rw [hg]
    have e1 : 8 * p / 8 = p := by omega
    have e2 : 8 * p % 8 = 0 := by omega
    simp only [bitOf, e1, e2, q2]
    congr 1
    simp
    omega
  · have e := numF_byte s tx false p q1 2 1 (by omega)
    rw [q2] at e
    rw [e]
    have : l.toNat / 2 ^ 1 % 2 ^ 2 = 0 := by simp; omega
    rw [this]
  · have e0 : alignF ⟨8 * p + 3, tx, 0, false⟩ = ⟨8 * (p + 1), tx, 0, false⟩ := by
      unfold alignF
      congr 1
      show (8 * p + 3 + 7) / 8 * 8 = _
      omega
    have e1 := num16 s tx false (p + 1) (by omega)
    have e2 := num16 s tx false (p + 1 + 2) (by omega)
    rw [show p + 1 + 1 + 1 = p + 1 + 2 by rfl] at c2
    rw [show p + 1 + 1 + 1 + 1 = p + 1 + 2 + 1 by rfl] at d2
    rw [a2, b2] at e1
    rw [c2, d2] at e2
    unfold plainHead
    simp only [e0, e1, e2]
    congr 1
    by_cases c0 : a.toNat + 256 * b.toNat + (c.toNat + 256 * d.toNat) = 65535
    · rw [if_neg (by simp [c0]), if_neg (by simp [c0])]
    · rw [if_pos ⟨trivial, c0⟩, if_pos c0]
      unfold stopF
      rw [if_pos rfl]

theorem stored_step {s : ByteArray} {p : Nat} {tx : List UInt8} {l a b c d : UInt8} {x : List UInt8} (h : HasAt s p (l :: a :: b :: c :: d :: x)) (hl : l.toNat < 2)
    (hn : a.toNat + 256 * b.toNat = x.length) (hm : x.length + (c.toNat + 256 * d.toNat) = 65535) (ht : tx.length + x.length ≤ 5000) :
    runStep s ⟨8 * p, tx, 0, false⟩ = (false, ⟨8 * (p + 5 + x.length), tx ++ x, 0, decide (l.toNat = 1)⟩) := by
  obtain ⟨h1, h2, h3⟩ := head_run (tx := tx) h hl
  have hb := bytes_run s false x (p + 5) tx h.tail.tail.tail.tail.tail ht
  have hbl : blockF s 0 ⟨8 * p + 3, tx, 0, false⟩ = ⟨8 * (p + 5 + x.length), tx ++ x, 0, false⟩ := by
    unfold blockF plainF
    rw [if_pos rfl, h3, hn, if_neg (by omega), hb]
  unfold runStep
  rw [h1, h2, if_neg (by simp), hbl]
  simp

theorem bad_step {s : ByteArray} {p : Nat} {tx : List UInt8} {l a b c d : UInt8} {x : List UInt8} (h : HasAt s p (l :: a :: b :: c :: d :: x)) (hl : l.toNat < 2)
    (hm : a.toNat + 256 * b.toNat + (c.toNat + 256 * d.toNat) ≠ 65535) :
    runStep s ⟨8 * p, tx, 0, false⟩ = (false, ⟨8 * (p + 5), tx, 1, false⟩) := by
  obtain ⟨h1, h2, h3⟩ := head_run (tx := tx) h hl
  have hbl : blockF s 0 ⟨8 * p + 3, tx, 0, false⟩ = ⟨8 * (p + 5), tx, 1, false⟩ := by
    unfold blockF plainF
    rw [if_pos rfl, h3, if_pos hm]
    exact bytesF_dead (by simp) _
  unfold runStep
  rw [h1, h2, if_neg (by simp), hbl]
  simp

/-- So far k blocks are laid, none the last: reading comes behind them, whatever follows. -/
structure Laid (x done : List UInt8) (k : Nat) : Prop where
  size : 5 * k + done.length = x.length
  text : done.length ≤ 5000
  run : ∀ (s : ByteArray) (f : Nat), HasAt s 0 x → runGo s (k + f) start = runGo s f ⟨8 * x.length, done, 0, false⟩

theorem Laid.nil : Laid [] [] 0 := ⟨rfl, by simp, fun s f _ => by simp [start]⟩

theorem HasAt.left {s : ByteArray} {x y : List UInt8} (h : HasAt s 0 (x ++ y)) : HasAt s 0 x :=
  ⟨by have := h.1; simp at this; simp; omega, fun j hj => by
    have e := h.2 j (by simp; omega)
    rw [List.getD_eq_getElem?_getD (l := x ++ y), List.getElem?_append_left hj] at e
    rw [e, List.getD_eq_getElem?_getD]⟩
theorem HasAt.right {s : ByteArray} {x y : List UInt8} (h : HasAt s 0 (x ++ y)) : HasAt s x.length y :=
  ⟨by have := h.1; simp at this; omega, fun j hj => by
    have e := h.2 (x.length + j) (by simp; omega)
    rw [Nat.zero_add, List.getD_eq_getElem?_getD (l := x ++ y), List.getElem?_append_right (by omega)] at e
    rw [e, List.getD_eq_getElem?_getD, Nat.add_sub_cancel_left]⟩
theorem HasAt.self (x : List UInt8) : HasAt ⟨x.toArray⟩ 0 x := ⟨by simp [ByteArray.size], fun j _ => by simp⟩

theorem Laid.more {x done : List UInt8} {k : Nat} (h : Laid x done k) {a b c d : UInt8} {y : List UInt8} (hn : a.toNat + 256 * b.toNat = y.length) (hm : y.length + (c.toNat + 256 * d.toNat) = 65535) (ht : done.length + y.length ≤ 5000) :
    Laid (x ++ 0 :: a :: b :: c :: d :: y) (done ++ y) (k + 1) := by
  refine ⟨by have := h.size; simp; omega, by simp; omega, fun s f hs => ?_⟩
  rw [show k + 1 + f = k + (f + 1) by omega, h.run s (f + 1) hs.left]
  have e := stored_step (tx := done) hs.right (by decide) hn hm ht
  simp only [runGo]
  rw [if_pos (by simp), e]
  simp
  congr 2
  omega

theorem Laid.last {x done : List UInt8} {k : Nat} (h : Laid x done k) {a b c d : UInt8} {y : List UInt8} (hn : a.toNat + 256 * b.toNat = y.length) (hm : y.length + (c.toNat + 256 * d.toNat) = 65535) (ht : done.length + y.length ≤ 5000) :
    runF ⟨(x ++ 1 :: a :: b :: c :: d :: y).toArray⟩ = ⟨8 * (x.length + 5 + y.length), done ++ y, 0, true⟩ := by
  have hs := HasAt.self (x ++ 1 :: a :: b :: c :: d :: y)
  have hz : (⟨(x ++ 1 :: a :: b :: c :: d :: y).toArray⟩ : ByteArray).size = x.length + 5 + y.length := by simp [ByteArray.size]; omega
  have hk := h.size
  unfold runF
  rw [hz]
  obtain ⟨f, hf⟩ : ∃ f, 8 * (x.length + 5 + y.length) + 1 = k + (f + 2) := ⟨8 * (x.length + 5 + y.length) + 1 - k - 2, by omega⟩
  rw [hf, h.run _ (f + 2) hs.left]
  have e := stored_step (tx := done) hs.right (by decide) hn hm ht
  simp only [runGo]
  rw [if_pos (by simp), e]
  simp

theorem Laid.bad {x done : List UInt8} {k : Nat} (h : Laid x done k) {a b c d : UInt8} {y : List UInt8} (hm : a.toNat + 256 * b.toNat + (c.toNat + 256 * d.toNat) ≠ 65535) :
    (runF ⟨(x ++ 1 :: a :: b :: c :: d :: y).toArray⟩).why = 1 := by
  have hs := HasAt.self (x ++ 1 :: a :: b :: c :: d :: y)
  have hz : (⟨(x ++ 1 :: a :: b :: c :: d :: y).toArray⟩ : ByteArray).size = x.length + 5 + y.length := by simp [ByteArray.size]; omega
  have hk := h.size
  unfold runF
  rw [hz]
  obtain ⟨f, hf⟩ : ∃ f, 8 * (x.length + 5 + y.length) + 1 = k + (f + 2) := ⟨8 * (x.length + 5 + y.length) + 1 - k - 2, by omega⟩
  rw [hf, h.run _ (f + 2) hs.left]
  have e := bad_step (tx := done) hs.right (by decide) hm
  simp only [runGo]
  rw [if_pos (by simp), e]
  simp

end Go.Proofs.YtecddphahiadlaaGreatDoor
