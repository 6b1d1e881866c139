import Derived.Test.YtecddphahiadlaaGreatDoorCPenG
import Derived.Test.YtecddphahiadlaaGreatDoorCGMeas
import Derived.Test.YtecddphahiadlaaGreatDoorCFixL
import Derived.Test.YtecddphahiadlaaGreatDoorCPut
import Derived.BigRegion
import Derived.RegionTactic
import Derived.ChangeAlike
/- Symbols, lengths and distances that are written, as the document reads them: plain reckoning. -/
namespace Go.Proofs.YtecddphahiadlaaGreatDoor
open Go.RowKit
theorem fix_full : Full fixZ 288 := ⟨fix_fit, fun i _ => (fixZ_one i).1⟩
theorem fiv_full : Full fivZ 32 := ⟨fiv_fit, fun i _ => by unfold fivZ; omega⟩
/-- The bits of a symbol, and of a distance's symbol, in a block of kind 1. -/
def symB (i : Nat) : List Nat := codeB (codeN fixZ 288 i) (fixZ i).toNat
def disB (i : Nat) : List Nat := codeB (codeN fivZ 32 i) (fivZ i).toNat
theorem symB_length (i : Nat) : (symB i).length = (fixZ i).toNat := codeB_length _ _
theorem disB_length (i : Nat) : (disB i).length = 5 := codeB_length _ _
theorem symB_bs (i : Nat) : Bs (symB i) := codeB_bs _ _
theorem disB_bs (i : Nat) : Bs (disB i) := codeB_bs _ _
theorem symB_le (i : Nat) : (symB i).length ≤ 9 ∧ 7 ≤ (symB i).length := by
 rw [symB_length]; unfold fixZ
 split
 · decide
 · split <;> decide
theorem symB_great (i : Nat) (h : 256 ≤ i) : (symB i).length ≤ 8 := by
 rw [symB_length]; unfold fixZ
 rw [if_neg (by omega)]
 split <;> decide
/-- A length, and a distance. -/
def lenB (n : Nat) (p : Nat) : List Nat := if n = 258 then symB 285 else symB (257 + p) ++ numB (n - 3 - tellL p) (addL p)
def dstB (d : Nat) (p : Nat) : List Nat := disB p ++ numB (d - 1 - tellD p) (addD p)
theorem lenB_bs (n p : Nat) : Bs (lenB n p) := by
 unfold lenB
 split
 · exact symB_bs _
 · exact (symB_bs _).app (numB_bs _ _)
theorem dstB_bs (d p : Nat) : Bs (dstB d p) := (disB_bs _).app (numB_bs _ _)
def fixGo (s : ByteArray) (f : Nat) (σ : St) : St := codedGo s (codeT fixZ 288) 288 (codeT fivZ 32) 32 f σ
theorem there_some : thereN (codeT fivZ 32) 32 ≠ 0 := by
 have h : ∀ k, 0 < k → k ≤ 32 → thereN (codeT fivZ 32) k ≠ 0 := by
  intro k h0 hk
  obtain ⟨q, rfl⟩ : ∃ q, k = q + 1 := ⟨k - 1, by omega⟩
  simp only [thereN]
  rw [codeT_eq fiv_full (by omega), bitsB_size]
  unfold fivZ
  simp
 exact h 32 (by omega) (by omega)
/-- Bits that are read as a text, whatever text is ahead. -/
structure Dec (t : List UInt8) (b : List Nat) : Prop where
 bits : Bs b
 run : ∀ (s : ByteArray) (p : Nat) (t0 : List UInt8), HasBits s p b → t0.length + t.length ≤ 5000 → ∃ k, k ≤ b.length ∧ ∀ f, fixGo s (k + f) ⟨p, t0, 0, false⟩ = fixGo s f ⟨p + b.length, t0 ++ t, 0, false⟩
theorem Dec.nil : Dec [] [] := ⟨fun x h => by simp at h, fun s p t0 _ _ => ⟨0, by simp, fun f => by rw [Nat.zero_add, List.append_nil]; rfl⟩⟩
/-- Bytes from further ahead, if that is not too far, do not hang on what is ahead of all. -/
theorem copyF_app (back : Nat) : ∀ (n : Nat) (t0 t : List UInt8), 1 ≤ back → back ≤ t.length → copyF back n (t0 ++ t) = t0 ++ copyF back n t
 | 0, _, _, _, _ => rfl
 |
  n + 1, t0, t, h1, h => by
  simp only [copyF]
  have e : (t0 ++ t).getD ((t0 ++ t).length - back) 0 = t.getD (t.length - back) 0 := by
   rw [List.getD_eq_getElem?_getD, List.getD_eq_getElem?_getD, List.length_append, List.getElem?_append_right (by omega)]
   congr 2
   omega
  rw [e, List.append_assoc]
  exact copyF_app back n t0 _ h1 (by rw [List.length_append]; omega)
theorem fixGo_step (s : ByteArray) (f : Nat) (σ : St) (h : σ.why = 0) (h1 : (stepF s (codeT fivZ 32) 32 (thereN (codeT fivZ 32) 32) (symF s (codeT fixZ 288) 288 σ)).1 = false) :
 fixGo s (f + 1) σ = fixGo s f (stepF s (codeT fivZ 32) 32 (thereN (codeT fivZ 32) 32) (symF s (codeT fixZ 288) 288 σ)).2 := by
 unfold fixGo
 simp only [codedGo]
 rw [if_neg (by omega), h1]
 rfl
/-- One byte more. -/
theorem Dec.lit {t : List UInt8} {b : List Nat} (h : Dec t b) (c : UInt8) : Dec (t ++ [c]) (b ++ symB c.toNat) := by
 have hc := c.toNat_lt
 refine ⟨h.bits.app (symB_bs _), fun s p t0 hb hl => ?_⟩
 rw [List.length_append, List.length_singleton] at hl
 obtain ⟨k, hk, hr⟩ := h.run s p t0 hb.left (by omega)
 refine ⟨k + 1, by have := (symB_le c.toNat).2; rw [List.length_append]; omega, fun f => ?_⟩
 rw [show k + 1 + f = k + (f + 1) from by omega, hr (f + 1)]
 have hs := sym_read fix_full (i := c.toNat) (by omega) hb.right (t0 ++ t) false
 have hst : stepF s (codeT fivZ 32) 32 (thereN (codeT fivZ 32) 32) (symF s (codeT fixZ 288) 288 ⟨p + b.length, t0 ++ t, 0, false⟩) = (false, ⟨p + b.length + (fixZ c.toNat).toNat, t0 ++ (t ++ [c]), 0, false⟩) := by
  rw [hs]
  unfold stepF
  rw [if_neg (by simp; omega), if_pos (by show ((c.toNat : Int)) < 256; omega)]
  unfold putF
  rw [if_neg (by simp), if_neg (by show ¬ (t0 ++ t).length = 5000; rw [List.length_append]; omega)]
  simp
 rw [fixGo_step s f _ rfl (by rw [hst]), hst, show p + (b ++ symB c.toNat).length = p + b.length + (fixZ c.toNat).toNat from by rw [List.length_append, symB_length]; omega]
/-- Bytes of the text again. -/
theorem Dec.pair {t : List UInt8} {b : List Nat} (h : Dec t b) {n d p q : Nat} (h3 : 3 ≤ n) (h258 : n ≤ 258) (hp : n ≠ 258 → PlL (n - 3) p) (hd : 1 ≤ d) (hdt : d ≤ t.length) (hq : PlD (d - 1) q) : Dec (copyF d n t) (b ++ (lenB n p ++ dstB d q)) := by
 refine ⟨h.bits.app ((lenB_bs _ _).app (dstB_bs _ _)), fun s P t0 hb hl => ?_⟩
 rw [copyF_length] at hl
 obtain ⟨k, hk, hr⟩ := h.run s P t0 hb.left (by omega)
 refine ⟨k + 1, by have := disB_length q; unfold dstB; simp only [List.length_append]; omega, fun f => ?_⟩
 rw [show k + 1 + f = k + (f + 1) from by omega, hr (f + 1)]
 obtain ⟨tt, htt⟩ : ∃ tt, tt = t0 ++ t := ⟨_, rfl⟩
 have hct : t0 ++ copyF d n t = copyF d n tt := by rw [htt, copyF_app d n t0 t hd hdt]
 have hlt : tt.length = t0.length + t.length := by rw [htt, List.length_append]
 rw [← htt, hct]
 have hb1 := hb.right.left
 have hb2 := hb.right.right
 obtain ⟨hq1, hq2, hq3⟩ := hq
 -- the length's symbol and number
 obtain ⟨y, hy1, hy2, hyn, hsy, hlen⟩ : ∃ y, 257 ≤ y ∧ y ≤ 285 ∧ pairN y + (numF s (pairM y) ⟨P + b.length + (fixZ y).toNat, tt, 0, false⟩).1 = n ∧ symF s (codeT fixZ 288) 288 ⟨P + b.length, tt, 0, false⟩ = ((y : Int), ⟨P + b.length + (fixZ y).toNat, tt, 0, false⟩) ∧
  (numF s (pairM y) ⟨P + b.length + (fixZ y).toNat, tt, 0, false⟩).2 = ⟨P + b.length + (lenB n p).length, tt, 0, false⟩ := by
  by_cases e : n = 258
  ·
   have e1 : lenB n p = symB 285 := by unfold lenB; rw [if_pos e]
   rw [e1] at hb1 ⊢
   refine ⟨285, by omega, by omega, ?_, sym_read fix_full (by omega) hb1 tt false, ?_⟩
   ·
    simp only [pairN, pairM]
    rw [if_pos trivial]; simp [numF]; omega
   ·
    simp only [pairM]
    rw [if_pos trivial, symB_length]; rfl
  ·
   have e1 : lenB n p = symB (257 + p) ++ numB (n - 3 - tellL p) (addL p) := by unfold lenB; rw [if_neg e]
   obtain ⟨hp1, hp2, hp3⟩ := hp e
   obtain ⟨hu1, hu2, hu3⟩ := tellL_up p hp1
   obtain ⟨he1, he2⟩ := tellL_eq p hp1
   rw [e1] at hb1 ⊢
   have hs := sym_read fix_full (i := 257 + p) (by omega) hb1.left tt false
   have hN : pairN (257 + p) = 3 + tellL p := by unfold pairN; rw [if_neg (by omega), show 257 + p - 257 = p from by omega, he1]
   have hM : pairM (257 + p) = addL p := by unfold pairM; rw [if_neg (by omega), show 257 + p - 257 = p from by omega, he2]
   have hb3 := hb1.right
   rw [symB_length] at hb3
   have hn := num_read (s := s) tt false (addL p) (n - 3 - tellL p) (P + b.length + (fixZ (257 + p)).toNat) (by omega) hb3
   refine ⟨257 + p, by omega, by omega, ?_, hs, ?_⟩
   · rw [hN, hM, hn]; omega
   · rw [hM, hn, List.length_append, symB_length, numB_length, ← Nat.add_assoc]
 -- the distance
 have hb4 : HasBits s (P + b.length + (lenB n p).length) (disB q ++ numB (d - 1 - tellD q) (addD q)) := hb2
 obtain ⟨hv1, hv2, hv3⟩ := tellD_up q (by omega)
 obtain ⟨hw1, hw2⟩ := tellD_eq q (by omega)
 have hs2 := sym_read fiv_full (i := q) (by omega) hb4.left tt false
 have hb5 := hb4.right
 rw [disB_length] at hb5
 have hn2 := num_read (s := s) tt false (addD q) (d - 1 - tellD q) (P + b.length + (lenB n p).length + 5) (by omega) hb5
 have hfive : (fivZ q).toNat = 5 := rfl
 rw [hfive] at hs2
 have hpair : pairF s (codeT fivZ 32) 32 y ⟨P + b.length + (fixZ y).toNat, tt, 0, false⟩ = ⟨P + b.length + (lenB n p).length + 5 + addD q, copyF d n tt, 0, false⟩ := by
  unfold pairF
  rw [hyn, hlen, hs2]
  unfold pairDist
  have hds : distSt ((q : Int), (⟨P + b.length + (lenB n p).length + 5, tt, 0, false⟩ : St)) = ⟨P + b.length + (lenB n p).length + 5, tt, 0, false⟩ := by
   unfold distSt
   rw [if_neg (by simp; omega)]
  rw [hds, if_neg (by simp)]
  show pairEnd n (baseN 1 4 2 ((q : Int).toNat) + (numF s (moreN 4 2 ((q : Int).toNat)) ⟨P + b.length + (lenB n p).length + 5, tt, 0, false⟩).1) (numF s (moreN 4 2 ((q : Int).toNat)) ⟨P + b.length + (lenB n p).length + 5, tt, 0, false⟩).2 = _
  rw [Int.toNat_natCast, ← hw1, ← hw2, hn2]
  unfold pairEnd
  have e : 1 + tellD q + (d - 1 - tellD q) = d := by omega
  simp only [e]
  rw [if_neg (by simp), if_neg (by show ¬ tt.length < d; omega), if_neg (by show ¬ 5000 < tt.length + n; omega)]
 have hst : stepF s (codeT fivZ 32) 32 (thereN (codeT fivZ 32) 32) (symF s (codeT fixZ 288) 288 ⟨P + b.length, tt, 0, false⟩) = (false, ⟨P + b.length + (lenB n p).length + 5 + addD q, copyF d n tt, 0, false⟩) := by
  rw [hsy]
  unfold stepF
  rw [if_neg (by simp; omega), if_neg (by show ¬ ((y : Int)) < 256; omega), if_neg (by have := there_some; simp; omega)]
  show (false, pairF s (codeT fivZ 32) 32 ((y : Int).toNat) _) = _
  rw [Int.toNat_natCast, hpair]
 rw [fixGo_step s f _ rfl (by rw [hst]), hst, show P + (b ++ (lenB n p ++ dstB d q)).length = P + b.length + (lenB n p).length + 5 + addD q from by unfold dstB; simp only [List.length_append, disB_length, numB_length]; omega]
/-- The block's end. -/
theorem Dec.stop {t : List UInt8} {b : List Nat} (h : Dec t b) {s : ByteArray} {p : Nat} {t0 : List UInt8} (hb : HasBits s p (b ++ symB 256)) (hl : t0.length + t.length ≤ 5000) : codedF s (codeT fixZ 288) 288 (codeT fivZ 32) 32 ⟨p, t0, 0, false⟩ = ⟨p + b.length + 7, t0 ++ t, 0, false⟩ := by
 obtain ⟨k, hk, hr⟩ := h.run s p t0 hb.left hl
 have h1 := hb.1
 have h7 : (symB 256).length = 7 := by rw [symB_length]; rfl
 rw [List.length_append, h7] at h1
 show fixGo s (8 * s.size + 1) _ = _
 obtain ⟨f, hf⟩ : ∃ f, 8 * s.size + 1 = k + (f + 1) := ⟨8 * s.size - k, by omega⟩
 rw [hf, hr (f + 1)]
 have hs := sym_read fix_full (i := 256) (by omega) hb.right (t0 ++ t) false
 have h7' : (fixZ 256).toNat = 7 := rfl
 rw [h7'] at hs
 unfold fixGo
 simp only [codedGo]
 rw [if_neg (by simp), hs]
 unfold stepF
 simp
/- The program's pen in memory, and its bit. -/
/-- The writer's block. -/
structure Pn (B : Nat) (w : World) (gx : Nat) (b : List Nat) (vs vd vb : Value) : Prop where
 le : B ≤ gx
 row : w.rowIs gx 127 4 (fun i => if i = 0 then vb else if i = 1 then .int .i64 (b.length % 8 : Nat) else if i = 2 then vs else vd)
 own : ∃ bs, PB bs b ∧ w.ownsRow B 5 1 vb bs.length (byteVals bs)
 ne : vb.ownBlock ≠ some gx
namespace Pn
variable {B : Nat} {w : World} {gx : Nat} {b : List Nat} {vs vd vb : Value}
theorem c0 (h : Pn B w gx b vs vd vb) : w.cell? ⟨gx, 0, none⟩ = some vb := by simpa using h.row.cell (i := 0) (by omega)
theorem c1 (h : Pn B w gx b vs vd vb) : w.cell? ⟨gx, 1, none⟩ = some (.int .i64 (b.length % 8 : Nat)) := by simpa using h.row.cell (i := 1) (by omega)
theorem c2 (h : Pn B w gx b vs vd vb) : w.cell? ⟨gx, 2, none⟩ = some vs := by simpa using h.row.cell (i := 2) (by omega)
theorem c3 (h : Pn B w gx b vs vd vb) : w.cell? ⟨gx, 3, none⟩ = some vd := by simpa using h.row.cell (i := 3) (by omega)
theorem fz (h : Pn B w gx b vs vd vb) (i : Nat) : w.frozen? ⟨gx, i, none⟩ = false := h.row.frozen i
theorem drewN (h : Pn B w gx b vs vd vb) (q : Nat) : Pn B (w.drewN q) gx b vs vd vb := ⟨h.le, h.row.of_block rfl, h.own, h.ne⟩
end Pn
/-- A call on the writer: its bits behind it, and the rest of memory. -/
def RunsP (B : Nat) (w w' : World) (gx : Nat) (b : List Nat) (vs vd vb : Value) : Prop :=
 ∃ vb', Pn B w' gx b vs vd vb' ∧ Kp w w' gx vb ∧ ∀ g, vb'.ownBlock = some g → vb.ownBlock = some g ∨ w.heap.size ≤ g
/-- Two bits of a byte, put together. -/
theorem or_u8 (a x r : Nat) (hr : r < 8) (ha : a < 2 ^ r) (hx : x < 2) : bits BinOp.or IntKind.u8 (a : Int) ((x * 2 ^ r : Nat) : Int) = ((a + x * 2 ^ r : Nat) : Int) := by
 have h2 : x * 2 ^ r < 256 ∧ a + x * 2 ^ r < 256 ∧ a < 256 := by
  rcases (by omega : r = 0 ∨ r = 1 ∨ r = 2 ∨ r = 3 ∨ r = 4 ∨ r = 5 ∨ r = 6 ∨ r = 7) with e | e | e | e | e | e | e | e <;> subst e <;> simp only [Nat.reducePow] at * <;> omega
 have h1 : ∀ k : Nat, k < 256 → (BitVec.ofInt 8 (k : Int)).toNat = k := fun k hk => by
  rw [BitVec.ofInt_natCast, BitVec.toNat_ofNat]; exact Nat.mod_eq_of_lt (by omega)
 show IntKind.u8.wrap ((BitVec.ofInt 8 (a : Int) ||| BitVec.ofInt 8 ((x * 2 ^ r : Nat) : Int)).toNat : Int) = _
 rw [BitVec.toNat_or, h1 a h2.2.2, h1 _ h2.1]
 have h3 : a ||| x * 2 ^ r = a + x * 2 ^ r := by
  rw [Nat.or_comm, Nat.add_comm, ← Nat.shiftLeft_eq, Nat.shiftLeft_add_eq_or_of_lt ha]
 rw [h3, IntKind.wrap_u8]
 omega
theorem one_ne : (1 = 0) = False := by simp
theorem shl_or (v x r : Nat) (hr : r < 8) (hv : v < 2 ^ r) (hx : x < 2) : bits BinOp.or IntKind.u8 (v : Int) (wrap64 ((x : Int) * 2 ^ r) % 256) = ((v + x * 2 ^ r : Nat) : Int) := by
 have h2 : x * 2 ^ r < 256 := by
  rcases (by omega : r = 0 ∨ r = 1 ∨ r = 2 ∨ r = 3 ∨ r = 4 ∨ r = 5 ∨ r = 6 ∨ r = 7) with e | e | e | e | e | e | e | e <;> subst e <;> simp only [Nat.reducePow] at * <;> omega
 have e : ((x : Int) * 2 ^ r) = ((x * 2 ^ r : Nat) : Int) := by simp
 have e2 : (((x * 2 ^ r : Nat) : Int)) % 256 = ((x * 2 ^ r : Nat) : Int) := by omega
 rw [e, IntWalk.wrap64_in _ ⟨by omega, by omega⟩, e2, or_u8 v x r hr hv hx]
theorem byteVals_set (l : List UInt8) (i : Nat) (c : UInt8) : (byteVals l).set i (.int .u8 (c.toNat : Int)) = byteVals (l.set i c) := by
 unfold byteVals; rw [List.map_set]
theorem byteVals_at (l : List UInt8) (j : Nat) (hj : j < l.length) : (byteVals l)[j]? = some (.int .u8 ((l.getD j 0).toNat : Int)) := by
 unfold byteVals
 rw [List.getElem?_map, List.getElem?_eq_getElem hj, List.getD_eq_getElem?_getD, List.getElem?_eq_getElem hj]
 rfl
/-- The writer, the next bit's byte begun. -/
structure PnO (B : Nat) (w : World) (gx : Nat) (b : List Nat) (vs vd : Value) (bs : List UInt8) (g cap : Nat) : Prop where
 le : B ≤ gx
 row : w.rowIs gx 127 4 (fun i => if i = 0 then .slice (some ⟨g, 0, none⟩) bs.length cap else if i = 1 then .int .i64 (b.length % 8 : Nat) else if i = 2 then vs else vd)
 own : w.ownsRow B 5 1 (.slice (some ⟨g, 0, none⟩) bs.length cap) bs.length (byteVals bs)
 po : PO bs b
 ne : gx ≠ g
namespace PnO
variable {B : Nat} {w : World} {gx : Nat} {b : List Nat} {vs vd : Value} {bs : List UInt8} {g cap : Nat}
theorem c0 (h : PnO B w gx b vs vd bs g cap) : w.cell? ⟨gx, 0, none⟩ = some (.slice (some ⟨g, 0, none⟩) bs.length cap) := by simpa using h.row.cell (i := 0) (by omega)
theorem c1 (h : PnO B w gx b vs vd bs g cap) : w.cell? ⟨gx, 1, none⟩ = some (.int .i64 (b.length % 8 : Nat)) := by simpa using h.row.cell (i := 1) (by omega)
theorem last (h : PnO B w gx b vs vd bs g cap) {m : Nat} (hm : bs.length = m + 1) : w.cell? ⟨g, m, none⟩ = some (.int .u8 ((bs.getD m 0).toNat : Int)) := by
 rw [h.own.cellAt m (by omega), byteVals_at _ _ (by omega)]
theorem low (h : PnO B w gx b vs vd bs g cap) {m : Nat} (hm : bs.length = m + 1) : (bs.getD m 0).toNat < 2 ^ (b.length % 8) := by
 have hl := h.po.len
 rw [h.po.val m (by omega), show m = b.length / 8 from by omega]
 exact byteAt_low h.po.bits
/-- The bit is put in. -/
theorem put (h : PnO B w gx b vs vd bs g cap) {m x : Nat} (hm : bs.length = m + 1) (hx : x < 2) :
 Pn B (((w.setCell ⟨g, m, none⟩ (.int .u8 (((bs.getD m 0).toNat + x * 2 ^ (b.length % 8) : Nat) : Int))).drew).setCell ⟨gx, 1, none⟩ (.int .i64 ((b.length % 8 + 1) % 8 : Nat))) gx (b ++ [x]) vs vd (.slice (some ⟨g, 0, none⟩) bs.length cap) := by
 have hlow := h.low hm
 have h256 : (bs.getD m 0).toNat + x * 2 ^ (b.length % 8) < 256 := by
  have hr : b.length % 8 < 8 := by omega
  generalize b.length % 8 = r at hlow hr
  rcases (by omega : r = 0 ∨ r = 1 ∨ r = 2 ∨ r = 3 ∨ r = 4 ∨ r = 5 ∨ r = 6 ∨ r = 7) with e | e | e | e | e | e | e | e <;> subst e <;> simp only [Nat.reducePow] at * <;> omega
 obtain ⟨c, hc⟩ : ∃ c : UInt8, c.toNat = (bs.getD m 0).toNat + x * 2 ^ (b.length % 8) := ⟨UInt8.ofNat ((bs.getD m 0).toNat + x * 2 ^ (b.length % 8)), by rw [UInt8.toNat_ofNat']; omega⟩
 have hm1 : bs.length - 1 = m := by omega
 have hpb := h.po.put (c := c) hx (by rw [hm1]; exact hc)
 rw [hm1] at hpb
 rw [← hc]
 have ho := (h.own.stored m (.int .u8 (c.toNat : Int))).1
 rw [byteVals_set] at ho
 refine ⟨h.le, ?_, ⟨bs.set m c, hpb, ?_⟩, fun e => h.ne (Option.some.inj e).symm⟩
 ·
  refine (((h.row.setOther h.ne _).drew).set 1 _).congr (fun i _ => ?_)
  rw [List.length_append]
  show (if i = 1 then _ else _) = _
  by_cases e1 : i = 1
  ·
   subst e1
   simp
  ·
   rw [if_neg e1]
   by_cases e0 : i = 0
   · rw [if_pos e0, if_pos e0]
   · rw [if_neg e0, if_neg e0, if_neg e1, if_neg e1]
 ·
  rw [List.length_set]
  obtain ⟨q1, q2⟩ := ho
  refine ⟨q1, ?_⟩
  rcases q2 with ⟨q2, _⟩ | ⟨g2, cap2, cur, hv, hb, hh, rr⟩
  · simp at q2
  ·
   have e1 : g = g2 := by simp at hv; exact hv.1
   subst e1
   exact Or.inr ⟨g, cap2, cur, hv, hb, (Below.heap_setCell _ _ _ _ (fun e => h.ne e.symm)).trans hh, rr⟩
end PnO
/-- Behind an append of a nought the next bit's byte is begun. -/
theorem pn_more {B : Nat} {w w2 : World} {gx : Nat} {b : List Nat} {vs vd vb : Value} {bs : List UInt8} {o : Obj} {g' cap' : Nat} (h : Pn B w gx b vs vd vb) (hpb : PB bs b) (h0 : b.length % 8 = 0)
 (ho : w2.ownsRow B 5 1 (.slice (some ⟨g', 0, none⟩) (bs.length + 1) cap') (bs.length + 1) (byteVals bs ++ [.int .u8 0])) (hd : w.heap.size + 1 ≤ g' ∨ vb.ownBlock = some g') (hg : (w.alloc o).grownBy w2 (some g')) :
 w2.cell? ⟨gx, 0, none⟩ = some vb ∧ w2.frozen? ⟨gx, 0, none⟩ = false ∧
 PnO B (w2.setCell ⟨gx, 0, none⟩ (.slice (some ⟨g', 0, none⟩) (bs.length + 1) cap')) gx b vs vd (bs ++ [0]) g' cap' ∧ Kp w (w2.setCell ⟨gx, 0, none⟩ (.slice (some ⟨g', 0, none⟩) (bs.length + 1) cap')) gx vb ∧ (vb.ownBlock = some g' ∨ w.heap.size ≤ g') := by
 have hgl := h.row.lt
 have hne : gx ≠ g' := by
  intro e
  subst e
  rcases hd with hd | hd
  · omega
  · exact h.ne hd
 have hsz : (w.alloc o).heap.size = w.heap.size + 1 := by simp
 have hs2 := hg.size
 have blk : ∀ b, b < w.heap.size → b ≠ g' → w2.heap[b]? = w.heap[b]? := fun b hb hbn => (hg.block b (by omega) (by intro e; exact hbn (Option.some.inj e))).trans (Below.heap_alloc w o b hb)
 have hrow := h.row.of_block (blk gx hgl hne)
 have hbl : (bs ++ [0]).length = bs.length + 1 := by simp
 refine ⟨by simpa using hrow.cell (i := 0) (by omega), hrow.frozen 0, ⟨h.le, ?_, ?_, hpb.open0 h0, hne⟩, ⟨hg.os, hg.tape, hg.output, by simp [World.setCell]; omega, fun b hb hx hv => ?_⟩, ?_⟩
 ·
  rw [hbl]
  exact (hrow.set 0 _).congr (fun i _ => by
   by_cases e0 : i = 0
   · rw [if_pos e0, if_pos e0]
   · rw [if_neg e0, if_neg e0, if_neg e0])
 ·
  rw [hbl, byteVals_snoc]
  obtain ⟨q1, q2⟩ := ho
  refine ⟨q1, ?_⟩
  rcases q2 with ⟨q2, _⟩ | ⟨g, cap, cur, hv, hb, hh, r⟩
  · simp at q2
  ·
   have e1 : g' = g := by simp at hv; exact hv.1
   subst e1
   exact Or.inr ⟨g', cap, cur, hv, hb, (Below.heap_setCell _ _ _ _ (fun e => hne e.symm)).trans hh, r⟩
 ·
  rw [Below.heap_setCell _ _ _ _ hx]
  refine blk b hb (fun e => ?_)
  subst e
  rcases hd with hd | hd
  · omega
  · exact hv hd
 ·
  rcases hd with hd | hd
  · exact Or.inr (by omega)
  · exact Or.inl hd
theorem Kp.put {w w1 : World} {gx g m : Nat} {vb v v1 : Value} (h : Kp w w1 gx vb) (hg : vb.ownBlock = some g ∨ w.heap.size ≤ g) : Kp w (((w1.setCell ⟨g, m, none⟩ v).drew).setCell ⟨gx, 1, none⟩ v1) gx vb := by
 refine ⟨h.os, h.tape, h.output, ?_, fun b hb hx hv => ?_⟩
 ·
  have := h.size
  show w.heap.size ≤ (((w1.setCell ⟨g, m, none⟩ v)).setCell ⟨gx, 1, none⟩ v1).heap.size
  simp [World.setCell]
  omega
 ·
  rw [Below.heap_setCell _ _ _ _ hx]
  show (w1.setCell ⟨g, m, none⟩ v).heap[b]? = _
  rw [Below.heap_setCell _ _ _ _ (fun e => ?_), h.block b hb hx hv]
  subst e
  rcases hg with hg | hg
  · exact hv hg
  · omega
set_option maxRecDepth 4000 in
set_option maxHeartbeats 1000000 in
theorem pbit_any (B gx x : Nat) (b : List Nat) (vs vd vb : Value) (w : World) (h : Pn B w gx b vs vd vb) (hB : B ≤ w.heap.size) (hl : b.length ≤ 1000000) (hx : x < 2) :
 Calls Tryz.prog 101 #[.pointer (some ⟨gx, 0, none⟩), .int .i64 (x : Int)] w fun e w' => e = .returned (.tuple #[]) ∧ RunsP B w w' gx (b ++ [x]) vs vd vb := by
 have c0 := h.c0
 have c1 := h.c1
 have f0 := h.fz 0
 obtain ⟨bs, hpb, hown⟩ := h.own
 have hlen := hpb.len
 by_cases h0 : b.length % 8 = 0
 ·
  obtain ⟨ao, cap, hvb⟩ : ∃ ao cap, vb = .slice ao bs.length cap := by
   obtain ⟨_, q⟩ := hown
   rcases q with ⟨q, q0⟩ | ⟨g, cap, cur, q, _⟩
   · exact ⟨none, 0, by rw [q, q0]⟩
   · exact ⟨_, _, q⟩
  rw [hvb] at c0
  rw [h0] at c1
  obtain ⟨n, hn⟩ : ∃ n, n = bs.length := ⟨_, rfl⟩
  have hown2 := hown
  rw [hvb, ← hn] at hown2
  rw [← hn] at c0
  have HN : Hid (n = bs.length) := hn
  have hn6 : n ≤ 1000000 := by omega
  clear hn hlen
  go_enter Tryz.func101, Tryz.ntmps101
  go_wp2_with (first | (at_builtin; refine wpList_append1s w rfl (.tmp 13) (.tmp 14) 80 rfl B 5 (.int .u8 0) 1 Tryz.underlying80 Tryz.info5 rfl (.slice ao n cap) n _ (.int .u8 0) rfl rfl w.heap.size rfl rfl hown2 hB (by unfold maxLen; omega) (by omega) ?_) | fail)
  intro g' cap' w2 ho hd hg
  rw [HN.out] at ho
  have hd' : w.heap.size + 1 ≤ g' ∨ vb.ownBlock = some g' := by rw [hvb, ← HN.out]; exact hd
  obtain ⟨k2, k3, q, K, hgn⟩ := pn_more h hpb h0 ho hd' hg
  rw [hvb, ← HN.out] at k2
  rw [← HN.out] at q K
  clear ho hd hd' hg hown hown2 f0 c0 c1
  go_wp2
  obtain ⟨w3, hw3⟩ : ∃ w3, w3 = w2.setCell ⟨gx, 0, none⟩ (.slice (some ⟨g', 0, none⟩) (n + 1) cap') := ⟨_, rfl⟩
  rw [← hw3] at q K ⊢
  clear hw3 k2 k3
  obtain ⟨m, hm⟩ : ∃ m, (bs ++ [0]).length = m + 1 := ⟨bs.length, by simp⟩
  have hmb : m ≤ 1000000 := by simp at hm; have := HN.out; omega
  have hlow := q.low hm
  have PUT := q.put hm hx
  have d0 := q.c0
  have d1 := q.c1
  have d2 := q.last hm
  have g1 := q.row.frozen 1
  have g2 := q.own.frozenAt m
  have hqn := q.ne
  have KP : ∀ v v1, Kp w (((w3.setCell ⟨g', m, none⟩ v).drew).setCell ⟨gx, 1, none⟩ v1) gx vb := fun v v1 => K.put (m := m) (v := v) (v1 := v1) hgn
  have E1 := fun v => (q.row.setOther (a := ⟨g', m, none⟩) hqn v).drew
  obtain ⟨r, hr⟩ : ∃ r, r = b.length % 8 := ⟨_, rfl⟩
  have hr8 : r < 8 := by omega
  obtain ⟨v, hv⟩ : ∃ v, v = ((bs ++ [0]).getD m 0).toNat := ⟨_, rfl⟩
  obtain ⟨N, hN⟩ : ∃ N, N = ((bs ++ [0])).length := ⟨_, rfl⟩
  rw [← hN] at d0 PUT E1
  rw [← hr] at d1 PUT hlow E1
  rw [← hv] at d2 PUT hlow
  have hidx : (N : Int) - 1 = (m : Int) := by omega
  have hmn : m < N := by omega
  have hN6 : N ≤ 1000002 := by omega
  have HO : Hid (bits BinOp.or IntKind.u8 (v : Int) (wrap64 ((x : Int) * 2 ^ r) % 256) = ((v + x * 2 ^ r : Nat) : Int)) := shl_or v x r hr8 hlow hx
  have D1 := fun u => (E1 u).cell (i := 1) (by omega)
  have G1 := fun u => (E1 u).frozen 1
  have HG : Hid (_) := hgn
  clear hr hv hN q E1 hlow hm K hgn
  go_region
  rw [HO.out]
  have D1' := D1 (.int .u8 ((v + x * 2 ^ r : Nat) : Int))
  have G1' := G1 (.int .u8 ((v + x * 2 ^ r : Nat) : Int))
  have KP' := KP (.int .u8 ((v + x * 2 ^ r : Nat) : Int)) (.int .i64 ((r + 1) % 8 : Nat))
  simp only [one_ne, if_false, if_true] at D1'
  clear D1 G1 KP d0 d1 d2 g1 g2
  generalize (w3.setCell ⟨g', m, none⟩ (.int .u8 ((v + x * 2 ^ r : Nat) : Int))).drew = w4 at D1' G1' PUT KP' ⊢
  have HR : Hid (((r : Int) + 1) % 8 = (((r + 1) % 8 : Nat) : Int)) := by show _ = _; omega
  go_wp2
  go_end0
  rw [HR.out]
  exact ⟨rfl, _, PUT, KP', fun g2 e => by rw [← Option.some.inj e]; exact HG.out⟩
 ·
  obtain ⟨m, hm⟩ : ∃ m, bs.length = m + 1 := ⟨bs.length - 1, by omega⟩
  obtain ⟨g, cap, hvb⟩ : ∃ g cap, vb = .slice (some ⟨g, 0, none⟩) bs.length cap := by
   obtain ⟨_, q⟩ := hown
   rcases q with ⟨q, q0⟩ | ⟨g, cap, cur, q, _⟩
   · omega
   · exact ⟨_, _, q⟩
  have q : PnO B w gx b vs vd bs g cap := ⟨h.le, by have := h.row; rw [hvb] at this; exact this, by rw [← hvb]; exact hown, hpb.open1 h0, by have := h.ne; rw [hvb] at this; exact fun e => this (by rw [e]; rfl)⟩
  have hgn : vb.ownBlock = some g ∨ w.heap.size ≤ g := Or.inl (by rw [hvb]; rfl)
  have K := Kp.refl w gx vb
  have HL : Hid (_) := hlen
  have hmb : m ≤ 1000000 := by omega
  clear hlen
  have hr0 : ((b.length % 8 : Nat) : Int) ≠ 0 := by omega
  go_enter Tryz.func101, Tryz.ntmps101
  go_wp2
  clear c0 c1 f0
  have hlow := q.low hm
  have PUT := q.put hm hx
  have d0 := q.c0
  have d1 := q.c1
  have d2 := q.last hm
  have g1 := q.row.frozen 1
  have g2 := q.own.frozenAt m
  have hqn := q.ne
  have KP : ∀ v v1, Kp w (((w.setCell ⟨g, m, none⟩ v).drew).setCell ⟨gx, 1, none⟩ v1) gx vb := fun v v1 => K.put (m := m) (v := v) (v1 := v1) hgn
  have E1 := fun v => (q.row.setOther (a := ⟨g, m, none⟩) hqn v).drew
  obtain ⟨r, hr⟩ : ∃ r, r = b.length % 8 := ⟨_, rfl⟩
  have hr8 : r < 8 := by omega
  obtain ⟨v, hv⟩ : ∃ v, v = (bs.getD m 0).toNat := ⟨_, rfl⟩
  obtain ⟨N, hN⟩ : ∃ N, N = (bs).length := ⟨_, rfl⟩
  rw [← hN] at d0 PUT E1
  rw [← hr] at d1 PUT hlow E1
  rw [← hv] at d2 PUT hlow
  have hidx : (N : Int) - 1 = (m : Int) := by omega
  have hmn : m < N := by omega
  have hN6 : N ≤ 1000002 := by omega
  have HO : Hid (bits BinOp.or IntKind.u8 (v : Int) (wrap64 ((x : Int) * 2 ^ r) % 256) = ((v + x * 2 ^ r : Nat) : Int)) := shl_or v x r hr8 hlow hx
  have D1 := fun u => (E1 u).cell (i := 1) (by omega)
  have G1 := fun u => (E1 u).frozen 1
  have HG : Hid (_) := hgn
  clear hr hv hN q E1 hlow hm K hgn
  go_region
  rw [HO.out]
  have D1' := D1 (.int .u8 ((v + x * 2 ^ r : Nat) : Int))
  have G1' := G1 (.int .u8 ((v + x * 2 ^ r : Nat) : Int))
  have KP' := KP (.int .u8 ((v + x * 2 ^ r : Nat) : Int)) (.int .i64 ((r + 1) % 8 : Nat))
  simp only [one_ne, if_false, if_true] at D1'
  clear D1 G1 KP d0 d1 d2 g1 g2
  generalize (w.setCell ⟨g, m, none⟩ (.int .u8 ((v + x * 2 ^ r : Nat) : Int))).drew = w4 at D1' G1' PUT KP' ⊢
  have HR : Hid (((r : Int) + 1) % 8 = (((r + 1) % 8 : Nat) : Int)) := by show _ = _; omega
  go_wp2
  go_end0
  rw [HR.out]
  exact ⟨rfl, _, PUT, KP', fun g2 e => by rw [← Option.some.inj e]; exact HG.out⟩
/- The program's pen: number, code, whole, begin. -/
theorem RunsP.refl {B : Nat} {w : World} {gx : Nat} {b : List Nat} {vs vd vb : Value} (h : Pn B w gx b vs vd vb) : RunsP B w w gx b vs vd vb :=
 ⟨vb, h, Kp.refl _ _ _, fun _ hg => Or.inl hg⟩
theorem RunsP.trans {B : Nat} {w w1 w2 : World} {gx : Nat} {b2 : List Nat} {vs vd vb vb1 : Value} (k1 : Kp w w1 gx vb) (f1 : ∀ g, vb1.ownBlock = some g → vb.ownBlock = some g ∨ w.heap.size ≤ g) (h2 : RunsP B w1 w2 gx b2 vs vd vb1) : RunsP B w w2 gx b2 vs vd vb := by
 obtain ⟨vb2, s2, k2, f2⟩ := h2
 refine ⟨vb2, s2, ⟨k2.os.trans k1.os, k2.tape.trans k1.tape, k2.output.trans k1.output, Nat.le_trans k1.size k2.size, fun b hb hx hv => ?_⟩, fun g hg => ?_⟩
 ·
  rw [k2.block b (Nat.lt_of_lt_of_le hb k1.size) hx (fun e => ?_), k1.block b hb hx hv]
  rcases f1 b e with e' | e'
  · exact hv e'
  · omega
 ·
  rcases f2 g hg with e | e
  · exact f1 g e
  · exact Or.inr (Nat.le_trans k1.size e)
theorem shr_one (v i : Nat) (hv : v < 9223372036854775808) : bits BinOp.and IntKind.i64 ((v : Int) / 2 ^ i) 1 = ((v / 2 ^ i % 2 : Nat) : Int) := by
 have e : (v : Int) / 2 ^ i = ((v / 2 ^ i : Nat) : Int) := by simp
 rw [e, and_one_i64 _ (Nat.lt_of_le_of_lt (Nat.div_le_self _ _) hv)]
set_option maxHeartbeats 400000 in
theorem pnum_any (B gx v n : Nat) (b : List Nat) (vs vd vb : Value) (w : World) (h : Pn B w gx b vs vd vb) (hB : B ≤ w.heap.size) (hl : b.length + n ≤ 1000000) (hv : v < 65536) (hn : n ≤ 16) :
 Calls Tryz.prog 79 #[.pointer (some ⟨gx, 0, none⟩), .int .i64 (v : Int), .int .i64 (n : Int)] w fun e w' => e = .returned (.tuple #[]) ∧ RunsP B w w' gx (b ++ numB v n) vs vd vb := by
 have R0 : RunsP B w w gx (b ++ numB v 0) vs vd vb := by have := RunsP.refl h; simpa [numB] using this
 clear h
 go_enter Tryz.func79, Tryz.ntmps79
 go_wp2
 go_loopw [8] (fun k wr => ∃ i : Nat, i ≤ n ∧ k = .int .i64 (i : Nat) ∧ RunsP B w wr gx (b ++ numB v i) vs vd vb) (fun k _ => n - (intOf k).toNat)
 case atStart => exact ⟨0, by omega, rfl, R0⟩
 case round =>
  obtain ⟨i, hi, rfl, hrel⟩ := hrel
  clear R0
  by_cases hlt : i < n
  ·
   have hb := shr_one v i (by omega)
   obtain ⟨vb1, hp, hk, hf⟩ := hrel
   have hx : v / 2 ^ i % 2 < 2 := Nat.mod_lt _ (by omega)
   obtain ⟨x, hxe⟩ : ∃ x, x = v / 2 ^ i % 2 := ⟨_, rfl⟩
   rw [← hxe] at hb hx
   have HX : Hid (x = v / 2 ^ i % 2) := hxe
   clear hxe
   have hi16 : i < 16 := by omega
   go_wp2_with fail
   refine (pbit_any B gx x (b ++ numB v i) vs vd vb1 _ hp (Nat.le_trans hB hk.size) (by rw [List.length_append, numB_length]; omega) hx).mono ?_
   rintro e w' ⟨rfl, hr⟩
   have R := RunsP.trans hk hf hr
   rw [List.append_assoc, HX.out, ← numB_snoc] at R
   clear hr hp hk hf
   go_wp2
   go_roundw
   case rel => exact ⟨i + 1, by omega, by go_num, R⟩
   case measure => simp [intOf]; omega
  ·
   obtain rfl : i = n := by omega
   go_wp2
   go_end0
   exact ⟨rfl, hrel⟩
theorem codeB_snoc (x m : Nat) : ∀ i, i ≤ m → (List.range i).map (fun j => bitAt x m j) = (codeB x m).take i := by
 intro i hi
 unfold codeB
 rw [← List.map_take, List.take_range, Nat.min_eq_left hi]
set_option maxHeartbeats 400000 in
theorem pcode_any (B gx x m : Nat) (b : List Nat) (vs vd vb : Value) (w : World) (h : Pn B w gx b vs vd vb) (hB : B ≤ w.heap.size) (hl : b.length + m ≤ 1000000) (hm : m ≤ 15) :
 Calls Tryz.prog 77 #[.pointer (some ⟨gx, 0, none⟩), .string (bitsB x m)] w fun e w' => e = .returned (.tuple #[]) ∧ RunsP B w w' gx (b ++ codeB x m) vs vd vb := by
 have R0 : RunsP B w w gx (b ++ (codeB x m).take 0) vs vd vb := by have := RunsP.refl h; simpa using this
 have hsz := bitsB_size x m
 have hat : ∀ i, i < m → ((bitsB x m).data.toList.getD i 0).toNat = 48 + bitAt x m i := fun i hi => by
  show ((bitsL x m).toArray.toList.getD i 0).toNat = _
  rw [List.getD_eq_getElem?_getD]
  simp only [bitsL, List.getElem?_map, List.getElem?_range hi, Option.map_some, Option.getD_some]
  have := bitAt_lt x m i
  rw [UInt8.toNat_ofNat']
  omega
 generalize bitsB x m = t at hsz hat
 clear h
 go_enter Tryz.func77, Tryz.ntmps77
 go_wp2
 go_loopw [7] (fun k wr => ∃ i : Nat, i ≤ m ∧ k = .int .i64 (i : Nat) ∧ RunsP B w wr gx (b ++ (codeB x m).take i) vs vd vb) (fun k _ => m - (intOf k).toNat)
 case atStart => exact ⟨0, by omega, rfl, R0⟩
 case round =>
  obtain ⟨i, hi, rfl, hrel⟩ := hrel
  clear R0
  by_cases hlt : i < m
  ·
   have hir : ∀ wq, _ := fun wq => index_run t i (i : Int) rfl (by omega) wq
   rw [hat i hlt] at hir
   obtain ⟨vb1, hp, hk, hf⟩ := hrel
   have hx : bitAt x m i < 2 := bitAt_lt _ _ _
   have HT : Hid ((codeB x m).take (i + 1) = (codeB x m).take i ++ [bitAt x m i]) := by
    show _ = _
    rw [← codeB_snoc x m i (by omega), ← codeB_snoc x m (i + 1) (by omega), List.range_succ]
    simp
   generalize bitAt x m i = y at hir hx HT
   go_wp2_with fail
   rw [show (48 + (y : Int) - 48) = (y : Int) from by omega]
   refine (pbit_any B gx y (b ++ (codeB x m).take i) vs vd vb1 _ hp (Nat.le_trans hB hk.size) (by rw [List.length_append, List.length_take, codeB_length]; omega) hx).mono ?_
   rintro e w' ⟨rfl, hr⟩
   have R := RunsP.trans hk hf hr
   rw [List.append_assoc, ← HT.out] at R
   clear hr hp hk hf hir
   go_wp2
   go_roundw
   case rel => exact ⟨i + 1, by omega, by go_num, R⟩
   case measure => simp [intOf]; omega
  ·
   obtain rfl : i = m := by omega
   rw [List.take_of_length_le (by rw [codeB_length]; omega)] at hrel
   go_wp2
   go_end0
   exact ⟨rfl, hrel⟩
theorem Pn.whole {B : Nat} {w : World} {gx : Nat} {b : List Nat} {vs vd vb : Value} (h : Pn B w gx b vs vd vb) {k : Nat} (hk : (b.length + k) % 8 = 0) (hk8 : k < 8) : Pn B (w.setCell ⟨gx, 1, none⟩ (.int .i64 0)) gx (b ++ List.replicate k 0) vs vd vb := by
 obtain ⟨bs, hpb, hown⟩ := h.own
 refine ⟨h.le, (h.row.set 1 _).congr (fun i _ => ?_), ⟨bs, hpb.whole hk hk8, ?_⟩, h.ne⟩
 ·
  rw [List.length_append, List.length_replicate, hk]
  by_cases e1 : i = 1
  · subst e1; simp
  ·
   rw [if_neg e1]
   by_cases e0 : i = 0
   · rw [if_pos e0, if_pos e0]
   · rw [if_neg e0, if_neg e0, if_neg e1, if_neg e1]
 ·
  obtain ⟨q1, q2⟩ := hown
  refine ⟨q1, ?_⟩
  rcases q2 with q2 | ⟨g, cap, cur, hv, hg, hh, r⟩
  · exact Or.inl q2
  · exact Or.inr ⟨g, cap, cur, hv, hg, by rw [Below.heap_setCell _ _ _ _ (by intro e; exact h.ne (by rw [hv]; show some g = some gx; rw [e]))]; exact hh, r⟩
set_option maxHeartbeats 400000 in
theorem pwhole_any (B gx k : Nat) (b : List Nat) (vs vd vb : Value) (w : World) (h : Pn B w gx b vs vd vb) (hk : (b.length + k) % 8 = 0) (hk8 : k < 8) :
 Calls Tryz.prog 78 #[.pointer (some ⟨gx, 0, none⟩)] w fun e w' => e = .returned (.tuple #[]) ∧ RunsP B w w' gx (b ++ List.replicate k 0) vs vd vb := by
 have c1 := h.c1
 have f1 := h.fz 1
 have R := h.whole hk hk8
 clear hk
 go_enter Tryz.func78, Tryz.ntmps78
 go_wp2
 go_end0
 exact ⟨rfl, vb, R, (Kp.refl _ _ _).set 1 _, fun _ hg => Or.inl hg⟩
set_option maxHeartbeats 400000 in
theorem pbegin_any (B gx l k : Nat) (b : List Nat) (vs vd vb : Value) (w : World) (h : Pn B w gx b vs vd vb) (hB : B ≤ w.heap.size) (hb : b.length + 3 ≤ 1000000) (hl : l < 2) (hk : k < 4) :
 Calls Tryz.prog 75 #[.pointer (some ⟨gx, 0, none⟩), .int .i64 (l : Int), .int .i64 (k : Int)] w fun e w' => e = .returned (.tuple #[]) ∧ RunsP B w w' gx (b ++ ([l] ++ numB k 2)) vs vd vb := by
 go_enter Tryz.func75, Tryz.ntmps75
 go_wp2_with fail
 refine (pbit_any B gx l b vs vd vb _ h hB (by omega) hl).mono ?_
 rintro e w1 ⟨rfl, vb1, hp, hkp, hf⟩
 go_wp2_with fail
 refine (pnum_any B gx k 2 (b ++ [l]) vs vd vb1 _ hp (Nat.le_trans hB hkp.size) (by simp; omega) (by omega) (by omega)).mono ?_
 rintro e w2 ⟨rfl, hr⟩
 have R := RunsP.trans hkp hf hr
 rw [List.append_assoc] at R
 clear hr hp hkp hf
 go_wp2
 go_end0
 exact ⟨rfl, R⟩
end Go.Proofs.YtecddphahiadlaaGreatDoor
