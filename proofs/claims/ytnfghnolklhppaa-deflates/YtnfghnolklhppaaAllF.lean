/- A text as it is written, symbol by symbol: plain reckoning. -/
import Derived.Test.YtnfghnolklhppaaDecF
import Derived.Test.YtnfghnolklhppaaPastL
namespace Go.Proofs.Ytnfghnolklhppaa
open Go.RowKit

def pre (T : ByteArray) (a : Nat) : List UInt8 := T.data.toList.take a
theorem pre_length {T : ByteArray} {a : Nat} (h : a ≤ T.size) : (pre T a).length = a := by
  unfold pre
  rw [List.length_take, Array.length_toList]
  have : T.data.size = T.size := rfl
  omega
theorem pre_snoc {T : ByteArray} {a : Nat} (h : a < T.size) : pre T (a + 1) = pre T a ++ [tb T a] := by
  unfold pre tb
  have hl : a < T.data.toList.length := by rw [Array.length_toList]; exact h
  rw [List.take_add_one, List.getD_eq_getElem?_getD, List.getElem?_eq_getElem hl]
  rfl
theorem pre_at {T : ByteArray} {a i : Nat} (h : i < a) : (pre T a).getD i 0 = tb T i := by
  unfold pre tb
  rw [List.getD_eq_getElem?_getD, List.getElem?_take, if_pos h, ← List.getD_eq_getElem?_getD]
theorem pre_whole (T : ByteArray) : pre T T.size = T.data.toList := by
  unfold pre
  exact List.take_of_length_le (by rw [Array.length_toList]; exact Nat.le_refl _)

theorem copy_pre {T : ByteArray} {d : Nat} (hd : 1 ≤ d) : ∀ (l a : Nat), d ≤ a → a + l ≤ T.size → Alk T (a - d) a l → copyF d l (pre T a) = pre T (a + l)
  | 0, a, _, _, _ => rfl
  | l + 1, a, hda, hl, hs => by
    simp only [copyF]
    have h0 := hs 0 (by omega)
    rw [Nat.add_zero, Nat.add_zero] at h0
    rw [pre_length (by omega), pre_at (by omega), h0, ← pre_snoc (by omega), copy_pre hd l (a + 1) (by omega) (by omega) (fun i hi => by
      have := hs (i + 1) (by omega)
      rw [show a + 1 - d + i = a - d + (i + 1) from by omega, show a + 1 + i = a + (i + 1) from by omega]
      exact this), show a + 1 + l = a + (l + 1) from by omega]

def CostOk (T : ByteArray) (a L : Nat) : Prop :=
  Uni T → (a = 0 ∧ L = 0) ∨ (1 ≤ a ∧ (a - 1) % 258 = 0 ∧ 5 * L ≤ 2 * (a - 1) + 45) ∨ (T.size ≤ a + 2 ∧ 5 * L + 45 * (T.size - a) ≤ 2 * a + 300)

/-- So much is written. -/
structure AllR (T : ByteArray) (a : Nat) (b : List Nat) : Prop where
  le : a ≤ T.size
  dec : Dec (pre T a) b
  len : b.length ≤ 32 * a
  cost : CostOk T a b.length

theorem AllR.start (T : ByteArray) : AllR T 0 [] := ⟨by omega, Dec.nil, by simp, fun _ => Or.inl ⟨rfl, rfl⟩⟩

theorem AllR.lit {T : ByteArray} {a d : Nat} {b : List Nat} (h : AllR T a b) (hT : T.size ≤ 5000) (ha : a < T.size) (hl : LongOk T a 0 d) : AllR T (a + 1) (b ++ symB (tb T a).toNat) := by
  have hs := symB_le (tb T a).toNat
  have hn := h.len
  refine ⟨ha, ?_, by rw [List.length_append]; omega, fun hu => ?_⟩
  · rw [pre_snoc ha]
    exact h.dec.lit _ (by rw [pre_length h.le]; omega)
  · have hc := h.cost hu
    rw [List.length_append]
    have h2 : a = 0 ∨ T.size < a + 3 := by
      rcases hl with ⟨_, _, q⟩ | q
      · exact q hu
      · have := q.1; omega
    rcases hc with ⟨c1, c2⟩ | ⟨c1, c2, c3⟩ | ⟨c1, c2⟩
    · subst c1
      exact Or.inr (Or.inl ⟨by omega, by simp, by omega⟩)
    · exact Or.inr (Or.inr ⟨by omega, by omega⟩)
    · exact Or.inr (Or.inr ⟨by omega, by omega⟩)

theorem lenB_le (n p : Nat) (hp : n ≠ 258 → PlL (n - 3) p) : (lenB n p).length ≤ 13 ∧ (n = 258 → (lenB n p).length ≤ 8) := by
  unfold lenB
  by_cases e : n = 258
  · rw [if_pos e]
    have := symB_great 285 (by omega)
    exact ⟨by omega, fun _ => this⟩
  · rw [if_neg e, List.length_append, numB_length]
    have h1 := symB_great (257 + p) (by omega)
    have h2 := (tellL_up p (hp e).1).2.2
    exact ⟨by omega, fun h => absurd h e⟩
theorem dstB_le (d q : Nat) (hd : 1 ≤ d) (hq : PlD (d - 1) q) : (dstB d q).length ≤ 18 ∧ (d = 1 → (dstB d q).length = 5) := by
  unfold dstB
  rw [List.length_append, numB_length, disB_length]
  have h2 := (tellD_up q (by have := hq.1; omega)).2.2
  refine ⟨by omega, fun e => ?_⟩
  subst e
  have h3 := hq.2.1
  have h4 : q = 0 := by
    rcases (by omega : q = 0 ∨ 1 ≤ q) with e | e
    · exact e
    · exfalso
      have : ∀ q, q < 25 → 1 ≤ q → 1 ≤ tellD q := by decide
      have := this q hq.1 e
      omega
  subst h4
  rfl

theorem AllR.pair {T : ByteArray} {a l d p q : Nat} {b : List Nat} (h : AllR T a b) (hT : T.size ≤ 5000) (hg : Good T a l d) (hp : l ≠ 258 → PlL (l - 3) p) (hq : PlD (d - 1) q) : AllR T (a + l) (b ++ (lenB l p ++ dstB d q)) := by
  obtain ⟨g1, g2, g3, g4, g5, g6, g7⟩ := hg
  have hl := lenB_le l p hp
  have hd := dstB_le d q g4 hq
  have hn := h.len
  refine ⟨g3, ?_, by simp only [List.length_append]; omega, fun hu => ?_⟩
  · rw [← copy_pre g4 l a g5 g3 g6]
    exact h.dec.pair g1 g2 hp g4 (by rw [pre_length h.le]; exact g5) hq (by rw [pre_length h.le]; omega)
  · have hc := h.cost hu
    obtain ⟨u1, u2⟩ := g7 hu
    have hd5 := hd.2 u2
    simp only [List.length_append]
    rcases hc with ⟨c1, c2⟩ | ⟨c1, c2, c3⟩ | ⟨c1, c2⟩
    · omega
    · by_cases e : l = 258
      · have := hl.2 e
        exact Or.inr (Or.inl ⟨by omega, by omega, by omega⟩)
      · exact Or.inr (Or.inr ⟨by omega, by omega⟩)
    · omega

theorem AllR.short {T : ByteArray} {b : List Nat} (h : AllR T T.size b) (hu : Uni T) : 5 * b.length ≤ 2 * T.size + 300 := by
  rcases h.cost hu with ⟨c1, c2⟩ | ⟨c1, c2, c3⟩ | ⟨c1, c2⟩ <;> omega

end Go.Proofs.Ytnfghnolklhppaa
