/- Symbols, lengths and distances that are written, as the document reads them: plain reckoning. -/
import Derived.Test.YtecddphahiadlaaDoorCPenG
import Derived.Test.YtecddphahiadlaaDoorCMeas
import Derived.Test.YtecddphahiadlaaDoorCFixL
namespace Go.Proofs.YtecddphahiadlaaDoor
open Go.RowKit

theorem fix_full : Full fixZ 288 := ⟨fix_fit, fun i _ => (fixZ_one i).1⟩
theorem fiv_full : Full fivZ 32 := ⟨fiv_fit, fun i _ => by unfold fivZ; omega⟩

/-- The bits of a symbol, and of a distance's symbol, in a block of kind 1. -/
def symB (i : Nat) : List Nat := codeB (codeN fixZ 288 i) (fixZ i).toNat
def disB (i : Nat) : List Nat := codeB (codeN fivZ 32 i) (fivZ i).toNat
theorem symB_length (i : Nat) : (symB i).length = (fixZ i).toNat := codeB_length _ _
theorem disB_length (i : Nat) : (disB i).length = 5 := codeB_length _ _
theorem symB_bs (i : Nat) : Bs (symB i) := codeB_bs _ _
theorem disB_bs (i : Nat) : Bs (disB i) := codeB_bs _ _
theorem symB_le (i : Nat) : (symB i).length ≤ 9 ∧ 7 ≤ (symB i).length := by
  rw [symB_length]; unfold fixZ
  split
  · decide
  · split <;> decide
theorem symB_great (i : Nat) (h : 256 ≤ i) : (symB i).length ≤ 8 := by
  rw [symB_length]; unfold fixZ
  rw [if_neg (by omega)]
  split <;> decide

/-- A length, and a distance. -/
def lenB (n : Nat) (p : Nat) : List Nat := if n = 258 then symB 285 else symB (257 + p) ++ numB (n - 3 - tellL p) (addL p)
def dstB (d : Nat) (p : Nat) : List Nat := disB p ++ numB (d - 1 - tellD p) (addD p)
theorem lenB_bs (n p : Nat) : Bs (lenB n p) := by
  unfold lenB
  split
  · exact symB_bs _
  · exact (symB_bs _).app (numB_bs _ _)
theorem dstB_bs (d p : Nat) : Bs (dstB d p) := (disB_bs _).app (numB_bs _ _)

def fixGo (s : ByteArray) (f : Nat) (σ : St) : St := codedGo s (codeT fixZ 288) 288 (codeT fivZ 32) 32 f σ

theorem there_some : thereN (codeT fivZ 32) 32 ≠ 0 := by
  have h : ∀ k, 0 < k → k ≤ 32 → thereN (codeT fivZ 32) k ≠ 0 := by
    intro k h0 hk
    obtain ⟨q, rfl⟩ : ∃ q, k = q + 1 := ⟨k - 1, by omega⟩
    simp only [thereN]
    rw [codeT_eq fiv_full (by omega), bitsB_size]
    unfold fivZ
    simp
  exact h 32 (by omega) (by omega)

/-- Bits that are read as a text, whatever text is ahead. -/
structure Dec (t : List UInt8) (b : List Nat) : Prop where
  bits : Bs b
  run : ∀ (s : ByteArray) (p : Nat) (t0 : List UInt8), HasBits s p b → t0.length + t.length ≤ 5000 → ∃ k, k ≤ b.length ∧ ∀ f, fixGo s (k + f) ⟨p, t0, 0, false⟩ = fixGo s f ⟨p + b.length, t0 ++ t, 0, false⟩

theorem Dec.nil : Dec [] [] := ⟨fun x h => by simp at h, fun s p t0 _ _ => ⟨0, by simp, fun f => by rw [Nat.zero_add, List.append_nil]; rfl⟩⟩

/-- Bytes from further ahead, if that is not too far, do not hang on what is ahead of all. -/
theorem copyF_app (back : Nat) : ∀ (n : Nat) (t0 t : List UInt8), 1 ≤ back → back ≤ t.length → copyF back n (t0 ++ t) = t0 ++ copyF back n t
  | 0, _, _, _, _ => rfl
  | n + 1, t0, t, h1, h => by
    simp only [copyF]
    have e : (t0 ++ t).getD ((t0 ++ t).length - back) 0 = t.getD (t.length - back) 0 := by
      rw [List.getD_eq_getElem?_getD, List.getD_eq_getElem?_getD, List.length_append, List.getElem?_append_right (by omega)]
      congr 2
      omega
    rw [e, List.append_assoc]
    exact copyF_app back n t0 _ h1 (by rw [List.length_append]; omega)

theorem fixGo_step (s : ByteArray) (f : Nat) (σ : St) (h : σ.why = 0) (h1 : (stepF s (codeT fivZ 32) 32 (thereN (codeT fivZ 32) 32) (symF s (codeT fixZ 288) 288 σ)).1 = false) :
    fixGo s (f + 1) σ = fixGo s f (stepF s (codeT fivZ 32) 32 (thereN (codeT fivZ 32) 32) (symF s (codeT fixZ 288) 288 σ)).2 := by
  unfold fixGo
  simp only [codedGo]
  rw [if_neg (by omega), h1]
  rfl

/-- One byte more. -/
theorem Dec.lit {t : List UInt8} {b : List Nat} (h : Dec t b) (c : UInt8) : Dec (t ++ [c]) (b ++ symB c.toNat) := by
  have hc := c.toNat_lt
  refine ⟨h.bits.app (symB_bs _), fun s p t0 hb hl => ?_⟩
  rw [List.length_append, List.length_singleton] at hl
  obtain ⟨k, hk, hr⟩ := h.run s p t0 hb.left (by omega)
  refine ⟨k + 1, by have := (symB_le c.toNat).2; rw [List.length_append]; omega, fun f => ?_⟩
  rw [show k + 1 + f = k + (f + 1) from by omega, hr (f + 1)]
  have hs := sym_read fix_full (i := c.toNat) (by omega) hb.right (t0 ++ t) false
  have hst : stepF s (codeT fivZ 32) 32 (thereN (codeT fivZ 32) 32) (symF s (codeT fixZ 288) 288 ⟨p + b.length, t0 ++ t, 0, false⟩) = (false, ⟨p + b.length + (fixZ c.toNat).toNat, t0 ++ (t ++ [c]), 0, false⟩) := by
    rw [hs]
    unfold stepF
    rw [if_neg (by simp; omega), if_pos (by show ((c.toNat : Int)) < 256; omega)]
    unfold putF
    rw [if_neg (by simp), if_neg (by show ¬ (t0 ++ t).length = 5000; rw [List.length_append]; omega)]
    simp
  rw [fixGo_step s f _ rfl (by rw [hst]), hst, show p + (b ++ symB c.toNat).length = p + b.length + (fixZ c.toNat).toNat from by rw [List.length_append, symB_length]; omega]

/-- Bytes of the text again. -/
theorem Dec.pair {t : List UInt8} {b : List Nat} (h : Dec t b) {n d p q : Nat} (h3 : 3 ≤ n) (h258 : n ≤ 258) (hp : n ≠ 258 → PlL (n - 3) p) (hd : 1 ≤ d) (hdt : d ≤ t.length) (hq : PlD (d - 1) q) : Dec (copyF d n t) (b ++ (lenB n p ++ dstB d q)) := by
  refine ⟨h.bits.app ((lenB_bs _ _).app (dstB_bs _ _)), fun s P t0 hb hl => ?_⟩
  rw [copyF_length] at hl
  obtain ⟨k, hk, hr⟩ := h.run s P t0 hb.left (by omega)
  refine ⟨k + 1, by have := disB_length q; unfold dstB; simp only [List.length_append]; omega, fun f => ?_⟩
  rw [show k + 1 + f = k + (f + 1) from by omega, hr (f + 1)]
  obtain ⟨tt, htt⟩ : ∃ tt, tt = t0 ++ t := ⟨_, rfl⟩
  have hct : t0 ++ copyF d n t = copyF d n tt := by rw [htt, copyF_app d n t0 t hd hdt]
  have hlt : tt.length = t0.length + t.length := by rw [htt, List.length_append]
  rw [← htt, hct]
  have hb1 := hb.right.left
  have hb2 := hb.right.right
  obtain ⟨hq1, hq2, hq3⟩ := hq
  -- the length's symbol and number
  obtain ⟨y, hy1, hy2, hyn, hsy, hlen⟩ : ∃ y, 257 ≤ y ∧ y ≤ 285 ∧ pairN y + (numF s (pairM y) ⟨P + b.length + (fixZ y).toNat, tt, 0, false⟩).1 = n ∧ symF s (codeT fixZ 288) 288 ⟨P + b.length, tt, 0, false⟩ = ((y : Int), ⟨P + b.length + (fixZ y).toNat, tt, 0, false⟩) ∧
      (numF s (pairM y) ⟨P + b.length + (fixZ y).toNat, tt, 0, false⟩).2 = ⟨P + b.length + (lenB n p).length, tt, 0, false⟩ := by
    by_cases e : n = 258
    · have e1 : lenB n p = symB 285 := by unfold lenB; rw [if_pos e]
      rw [e1] at hb1 ⊢
      refine ⟨285, by omega, by omega, ?_, sym_read fix_full (by omega) hb1 tt false, ?_⟩
      · simp only [pairN, pairM]
        rw [if_pos trivial]; simp [numF]; omega
      · simp only [pairM]
        rw [if_pos trivial, symB_length]; rfl
    · have e1 : lenB n p = symB (257 + p) ++ numB (n - 3 - tellL p) (addL p) := by unfold lenB; rw [if_neg e]
      obtain ⟨hp1, hp2, hp3⟩ := hp e
      obtain ⟨hu1, hu2, hu3⟩ := tellL_up p hp1
      obtain ⟨he1, he2⟩ := tellL_eq p hp1
      rw [e1] at hb1 ⊢
      have hs := sym_read fix_full (i := 257 + p) (by omega) hb1.left tt false
      have hN : pairN (257 + p) = 3 + tellL p := by unfold pairN; rw [if_neg (by omega), show 257 + p - 257 = p from by omega, he1]
      have hM : pairM (257 + p) = addL p := by unfold pairM; rw [if_neg (by omega), show 257 + p - 257 = p from by omega, he2]
      have hb3 := hb1.right
      rw [symB_length] at hb3
      have hn := num_read (s := s) tt false (addL p) (n - 3 - tellL p) (P + b.length + (fixZ (257 + p)).toNat) (by omega) hb3
      refine ⟨257 + p, by omega, by omega, ?_, hs, ?_⟩
      · rw [hN, hM, hn]; omega
      · rw [hM, hn, List.length_append, symB_length, numB_length, ← Nat.add_assoc]
  -- the distance
  have hb4 : HasBits s (P + b.length + (lenB n p).length) (disB q ++ numB (d - 1 - tellD q) (addD q)) := hb2
  obtain ⟨hv1, hv2, hv3⟩ := tellD_up q (by omega)
  obtain ⟨hw1, hw2⟩ := tellD_eq q (by omega)
  have hs2 := sym_read fiv_full (i := q) (by omega) hb4.left tt false
  have hb5 := hb4.right
  rw [disB_length] at hb5
  have hn2 := num_read (s := s) tt false (addD q) (d - 1 - tellD q) (P + b.length + (lenB n p).length + 5) (by omega) hb5
  have hfive : (fivZ q).toNat = 5 := rfl
  rw [hfive] at hs2
  have hpair : pairF s (codeT fivZ 32) 32 y ⟨P + b.length + (fixZ y).toNat, tt, 0, false⟩ = ⟨P + b.length + (lenB n p).length + 5 + addD q, copyF d n tt, 0, false⟩ := by
    unfold pairF
    rw [hyn, hlen, hs2]
    unfold pairDist
    have hds : distSt ((q : Int), (⟨P + b.length + (lenB n p).length + 5, tt, 0, false⟩ : St)) = ⟨P + b.length + (lenB n p).length + 5, tt, 0, false⟩ := by
      unfold distSt
      rw [if_neg (by simp; omega)]
    rw [hds, if_neg (by simp)]
    show pairEnd n (baseN 1 4 2 ((q : Int).toNat) + (numF s (moreN 4 2 ((q : Int).toNat)) ⟨P + b.length + (lenB n p).length + 5, tt, 0, false⟩).1) (numF s (moreN 4 2 ((q : Int).toNat)) ⟨P + b.length + (lenB n p).length + 5, tt, 0, false⟩).2 = _
    rw [Int.toNat_natCast, ← hw1, ← hw2, hn2]
    unfold pairEnd
    have e : 1 + tellD q + (d - 1 - tellD q) = d := by omega
    simp only [e]
    rw [if_neg (by simp), if_neg (by show ¬ tt.length < d; omega), if_neg (by show ¬ 5000 < tt.length + n; omega)]
  have hst : stepF s (codeT fivZ 32) 32 (thereN (codeT fivZ 32) 32) (symF s (codeT fixZ 288) 288 ⟨P + b.length, tt, 0, false⟩) = (false, ⟨P + b.length + (lenB n p).length + 5 + addD q, copyF d n tt, 0, false⟩) := by
    rw [hsy]
    unfold stepF
    rw [if_neg (by simp; omega), if_neg (by show ¬ ((y : Int)) < 256; omega), if_neg (by have := there_some; simp; omega)]
    show (false, pairF s (codeT fivZ 32) 32 ((y : Int).toNat) _) = _
    rw [Int.toNat_natCast, hpair]
  rw [fixGo_step s f _ rfl (by rw [hst]), hst, show P + (b ++ (lenB n p ++ dstB d q)).length = P + b.length + (lenB n p).length + 5 + addD q from by unfold dstB; simp only [List.length_append, disB_length, numB_length]; omega]

/-- The block's end. -/
theorem Dec.stop {t : List UInt8} {b : List Nat} (h : Dec t b) {s : ByteArray} {p : Nat} {t0 : List UInt8} (hb : HasBits s p (b ++ symB 256)) (hl : t0.length + t.length ≤ 5000) : codedF s (codeT fixZ 288) 288 (codeT fivZ 32) 32 ⟨p, t0, 0, false⟩ = ⟨p + b.length + 7, t0 ++ t, 0, false⟩ := by
  obtain ⟨k, hk, hr⟩ := h.run s p t0 hb.left hl
  have h1 := hb.1
  have h7 : (symB 256).length = 7 := by rw [symB_length]; rfl
  rw [List.length_append, h7] at h1
  show fixGo s (8 * s.size + 1) _ = _
  obtain ⟨f, hf⟩ : ∃ f, 8 * s.size + 1 = k + (f + 1) := ⟨8 * s.size - k, by omega⟩
  rw [hf, hr (f + 1)]
  have hs := sym_read fix_full (i := 256) (by omega) hb.right (t0 ++ t) false
  have h7' : (fixZ 256).toNat = 7 := rfl
  rw [h7'] at hs
  unfold fixGo
  simp only [codedGo]
  rw [if_neg (by simp), hs]
  unfold stepF
  simp

end Go.Proofs.YtecddphahiadlaaDoor
