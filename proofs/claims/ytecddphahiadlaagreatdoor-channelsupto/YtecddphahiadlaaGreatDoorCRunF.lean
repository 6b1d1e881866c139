import Derived.Test.YtecddphahiadlaaGreatDoorCLens
import Derived.Test.YtecddphahiadlaaGreatDoorCSyms
import Derived.Test.YtecddphahiadlaaGreatDoorCFixed
/- The codes of kind 2 by the document: plain reckoning. -/
namespace Go.Proofs.YtecddphahiadlaaGreatDoor
open Go.RowKit
def stop29 (p : Nat × St) : St := if p.2.why = 0 ∧ 29 < p.1 then stopF p.2 1 else p.2
theorem stop29_le {p : Nat × St} (h : (stop29 p).why = 0) : p.1 ≤ 29 ∧ stop29 p = p.2 := by
 unfold stop29 at h ⊢
 by_cases c : p.2.why = 0 ∧ 29 < p.1
 ·
  rw [if_pos c] at h
  exact absurd h (stopF_why (by omega))
 ·
  rw [if_neg c] at h ⊢
  exact ⟨by omega, rfl⟩
theorem Fit.stop29 {s : ByteArray} {p : Nat × St} (h : Fit s p.2) : Fit s (stop29 p) := by
 unfold Go.Proofs.YtecddphahiadlaaGreatDoor.stop29
 split
 · exact h.stop 1
 · exact h
/-- The three numbers at the head of kind 2. -/
structure Head where
 a : Nat
 b : Nat
 c : Nat
 st : St
def headF (s : ByteArray) (σ : St) : Head :=
 ⟨(numF s 5 σ).1, (numF s 5 (stop29 (numF s 5 σ))).1, (numF s 4 (stop29 (numF s 5 (stop29 (numF s 5 σ))))).1, (numF s 4 (stop29 (numF s 5 (stop29 (numF s 5 σ))))).2⟩
def lenZ (L : List Int) (off i : Nat) : Int := L.getD (off + i) 0
def badL (L : List Int) (a b : Nat) : Bool :=
 !(
  ks0 (lenZ L 0) (a + 257) == 32768) || L.getD 256 0 == 0 ||
  (!(ks0 (lenZ L (a + 257)) (b + 1) == 32768) && decide (0 < usedN (lenZ L (a + 257)) (b + 1)) && !(usedN (lenZ L (a + 257)) (b + 1) == 1 && ks0 (lenZ L (a + 257)) (b + 1) == 16384))
/-- Behind the lengths. -/
def ownEnd (p : List Int × St) (a b : Nat) : St := if p.2.why = 0 ∧ badL p.1 a b = true then stopF p.2 1 else p.2
/-- The lengths, and how far the stream is. -/
def ownF (s : ByteArray) (σ : St) : List Int × St :=
 if (headF s σ).st.why ≠ 0 then ([], (headF s σ).st)
 else ((lensF s ((headF s σ).a + (headF s σ).b + 258) ((headF s σ).c + 4) (headF s σ).st).1, ownEnd (lensF s ((headF s σ).a + (headF s σ).b + 258) ((headF s σ).c + 4) (headF s σ).st) (headF s σ).a (headF s σ).b)
theorem usedN_zero {z : Nat → Int} : ∀ {n : Nat}, usedN z n = 0 → ks0 z n = 0 := by
 intro n
 induction n with
 | zero => intro _; rfl
 |
  succ n ih =>
  intro h
  simp only [usedN] at h
  simp only [ks0]
  by_cases c : 0 < z n
  · rw [if_pos c] at h; omega
  ·
   rw [if_neg c] at h ⊢
   rw [ih (by omega)]
theorem badL_not {L : List Int} {a b : Nat} (h : badL L a b = false) : ks0 (lenZ L 0) (a + 257) = 32768 ∧ L.getD 256 0 ≠ 0 ∧ ks0 (lenZ L (a + 257)) (b + 1) ≤ 32768 := by
 unfold badL at h
 have hz := usedN_zero (z := lenZ L (a + 257)) (n := b + 1)
 generalize ks0 (lenZ L 0) (a + 257) = m at h ⊢
 generalize ks0 (lenZ L (a + 257)) (b + 1) = n at h hz ⊢
 generalize usedN (lenZ L (a + 257)) (b + 1) = k at h hz
 generalize L.getD 256 0 = x at h ⊢
 simp only [Bool.or_eq_false_iff, Bool.and_eq_false_iff, Bool.not_eq_eq_eq_not, Bool.not_false, beq_iff_eq, beq_eq_false_iff_ne, decide_eq_false_iff_not, Bool.and_eq_true] at h
 obtain ⟨⟨h1, h2⟩, h3⟩ := h
 refine ⟨h1, h2, ?_⟩
 rcases h3 with (h3 | h3) | h3
 · omega
 · have := hz (by omega); omega
 · omega
/- A stream by the document: plain reckoning. -/
def ownBlk (s : ByteArray) (σ : St) : St :=
 codedF s (codeT (lenZ (ownF s σ).1 0) ((headF s σ).a + 257)) ((headF s σ).a + 257) (codeT (lenZ (ownF s σ).1 ((headF s σ).a + 257)) ((headF s σ).b + 1)) ((headF s σ).b + 1) (ownF s σ).2
/-- A block behind its head. -/
def blockF (s : ByteArray) (kind : Nat) (σ : St) : St :=
 if kind = 0 then plainF s σ else if kind = 1 then codedF s (codeT fixZ 288) 288 (codeT fivZ 32) 32 σ else if kind = 2 then ownBlk s σ else stopF σ 1
/-- One block: is it no more, and how far the stream is. -/
def runStep (s : ByteArray) (σ : St) : Bool × St :=
 if (numF s 2 (bitF s σ).2).2.why ≠ 0 then (true, (numF s 2 (bitF s σ).2).2)
 else (false, { blockF s (numF s 2 (bitF s σ).2).1 (numF s 2 (bitF s σ).2).2 with fin := decide ((blockF s (numF s 2 (bitF s σ).2).1 (numF s 2 (bitF s σ).2).2).why = 0 ∧ (bitF s σ).1 = 1) })
def runGo (s : ByteArray) : Nat → St → St
 | 0, σ => σ
 | f + 1, σ => if σ.why = 0 ∧ σ.fin = false then (if (runStep s σ).1 = true then (runStep s σ).2 else runGo s f (runStep s σ).2) else σ
def start : St := ⟨0, [], 0, false⟩
def runF (s : ByteArray) : St := runGo s (8 * s.size + 1) start
theorem bytesF_ge (s : ByteArray) : ∀ (k : Nat) (σ : St), σ.pos ≤ (bytesF s k σ).pos
 | 0, _ => Nat.le_refl _
 |
  k + 1, σ => by
  have h := numF_ge s 8 σ
  simp only [bytesF]
  split
  ·
   refine Nat.le_trans h ?_
   have := bytesF_ge s k (putF (numF s 8 σ).2 (UInt8.ofNat (numF s 8 σ).1))
   rw [putF_pos] at this
   exact this
  · exact Nat.le_refl _
theorem bytesF_fit {s : ByteArray} : ∀ (k : Nat) {σ : St}, Fit s σ → Fit s (bytesF s k σ)
 | 0, _, h => h
 |
  k + 1, σ, h => by
  simp only [bytesF]
  split
  · exact bytesF_fit k ((h.num 8).put _)
  · exact h
theorem plainHead_fit {s : ByteArray} {σ : St} (h : Fit s σ) : Fit s (plainHead s σ).2 := by
 have h1 : Fit s (numF s 16 (alignF σ)).2 := Fit.num 16 h.align
 unfold plainHead
 generalize numF s 16 (alignF σ) = A at h1 ⊢
 have h2 : Fit s (numF s 16 A.2).2 := Fit.num 16 h1
 generalize hC : numF s 16 A.2 = C at h2
 simp only [hC]
 split
 · exact h2.stop 1
 · exact h2
theorem plainHead_ge (s : ByteArray) (σ : St) : σ.pos ≤ (plainHead s σ).2.pos := by
 have h0 : σ.pos ≤ (alignF σ).pos := by show σ.pos ≤ (σ.pos + 7) / 8 * 8; omega
 have h1 := Nat.le_trans h0 (numF_ge s 16 (alignF σ))
 unfold plainHead
 generalize numF s 16 (alignF σ) = A at h1 ⊢
 have h2 := Nat.le_trans h1 (numF_ge s 16 A.2)
 generalize hC : numF s 16 A.2 = C at h2
 simp only [hC]
 split
 · rw [stopF_pos]; exact h2
 · exact h2
theorem stop29_pos (p : Nat × St) : (stop29 p).pos = p.2.pos := by
 unfold stop29
 split
 · exact stopF_pos _ _
 · rfl
theorem headF_fit {s : ByteArray} {σ : St} (h : Fit s σ) : Fit s (headF s σ).st := by
 have h1 : Fit s (numF s 5 σ).2 := Fit.num 5 h
 unfold headF
 generalize numF s 5 σ = A at h1 ⊢
 have h2 : Fit s (numF s 5 (stop29 A)).2 := Fit.num 5 h1.stop29
 generalize numF s 5 (stop29 A) = C at h2 ⊢
 have h3 : Fit s (numF s 4 (stop29 C)).2 := Fit.num 4 h2.stop29
 generalize numF s 4 (stop29 C) = D at h3 ⊢
 exact h3
theorem headF_ge (s : ByteArray) (σ : St) : σ.pos ≤ (headF s σ).st.pos := by
 have h1 := numF_ge s 5 σ
 unfold headF
 generalize numF s 5 σ = A at h1 ⊢
 have h2 := numF_ge s 5 (stop29 A)
 rw [stop29_pos] at h2
 generalize numF s 5 (stop29 A) = C at h2 ⊢
 have h3 := numF_ge s 4 (stop29 C)
 rw [stop29_pos] at h3
 generalize numF s 4 (stop29 C) = D at h3 ⊢
 show σ.pos ≤ D.2.pos
 omega
theorem lensF_fit {s : ByteArray} {n many : Nat} {σ : St} (h : Fit s σ) : Fit s (lensF s n many σ).2 := by
 have h1 := headGo_fit (s := s) many 0 (fun _ => 0) h
 unfold lensF
 generalize headGo s many 0 (fun _ => 0) σ = a at h1 ⊢
 unfold lensTail
 split
 · exact h1
 ·
  split
  · exact h1.stop 1
  · exact lenGo_fit _ _ h1
theorem lensF_ge (s : ByteArray) (n many : Nat) (σ : St) : σ.pos ≤ (lensF s n many σ).2.pos := by
 have h1 := headGo_ge (s := s) many 0 (fun _ => 0) σ
 unfold lensF
 generalize headGo s many 0 (fun _ => 0) σ = a at h1 ⊢
 unfold lensTail
 split
 · exact h1
 ·
  split
  ·
   show σ.pos ≤ (stopF a.2 1).pos
   rw [stopF_pos]; exact h1
  · exact Nat.le_trans h1 (lenGo_ge _ _ _)
theorem ownEnd_pos (p : List Int × St) (a b : Nat) : (ownEnd p a b).pos = p.2.pos := by
 unfold ownEnd
 split
 · exact stopF_pos _ _
 · rfl
theorem ownF_fit {s : ByteArray} {σ : St} (h : Fit s σ) : Fit s (ownF s σ).2 := by
 have h1 := headF_fit (s := s) h
 unfold ownF
 generalize headF s σ = hd at h1 ⊢
 split
 · exact h1
 ·
  have h2 := lensF_fit (s := s) (n := hd.a + hd.b + 258) (many := hd.c + 4) h1
  show Fit s (ownEnd _ _ _)
  unfold ownEnd
  split
  · exact h2.stop 1
  · exact h2
theorem ownF_ge (s : ByteArray) (σ : St) : σ.pos ≤ (ownF s σ).2.pos := by
 have h1 := headF_ge s σ
 unfold ownF
 generalize headF s σ = hd at h1 ⊢
 split
 · exact h1
 ·
  have h2 := lensF_ge s (hd.a + hd.b + 258) (hd.c + 4) hd.st
  show σ.pos ≤ (ownEnd _ _ _).pos
  rw [ownEnd_pos]
  exact Nat.le_trans h1 h2
theorem blockF_fit {s : ByteArray} {kind : Nat} {σ : St} (h : Fit s σ) : Fit s (blockF s kind σ) := by
 unfold blockF
 split
 · exact bytesF_fit _ (plainHead_fit h)
 ·
  split
  · exact codedGo_fit _ h
  ·
   split
   · exact codedGo_fit _ (ownF_fit h)
   · exact h.stop 1
theorem blockF_ge (s : ByteArray) (kind : Nat) (σ : St) : σ.pos ≤ (blockF s kind σ).pos := by
 unfold blockF
 split
 · exact Nat.le_trans (plainHead_ge s σ) (bytesF_ge _ _ _)
 ·
  split
  · exact codedGo_ge _ _
  ·
   split
   · exact Nat.le_trans (ownF_ge s σ) (codedGo_ge _ _)
   · rw [stopF_pos]; exact Nat.le_refl _
theorem runStep_fit {s : ByteArray} {σ : St} (h : Fit s σ) : Fit s (runStep s σ).2 := by
 have h1 : Fit s (numF s 2 (bitF s σ).2).2 := Fit.num 2 h.bit
 unfold runStep
 generalize numF s 2 (bitF s σ).2 = q at h1 ⊢
 split
 · exact h1
 ·
  have h2 := blockF_fit (s := s) (kind := q.1) h1
  exact ⟨h2.pos, h2.text⟩
theorem runStep_rest {s : ByteArray} {σ : St} (h : Fit s σ) (hy : σ.why = 0) (h1 : (runStep s σ).1 = false) : restN s (runStep s σ).2 < restN s σ := by
 have hp := (runStep_fit (s := s) h).pos
 have hk := numF_alive (s := s) 2 (σ := (bitF s σ).2)
 have hg := numF_ge s 2 (bitF s σ).2
 have hm := bitF_more (s := s) (σ := σ)
 have h0 := h.pos
 unfold runStep at h1 hp ⊢
 generalize numF s 2 (bitF s σ).2 = q at h1 hp hk hg ⊢
 by_cases c : q.2.why ≠ 0
 · rw [if_pos c] at h1; simp at h1
 ·
  rw [if_neg c] at hp ⊢
  have c0 : q.2.why = 0 := by omega
  have h2 := hm (hk c0)
  have h3 := blockF_ge s q.1 q.2
  have hp' : (blockF s q.1 q.2).pos ≤ 8 * s.size := hp
  unfold restN
  rw [if_pos hy]
  show 8 * s.size - (blockF s q.1 q.2).pos + _ < _
  split <;> omega
theorem runGo_fit {s : ByteArray} : ∀ (f : Nat) {σ : St}, Fit s σ → Fit s (runGo s f σ)
 | 0, _, h => h
 |
  f + 1, σ, h => by
  simp only [runGo]
  split
  ·
   split
   · exact runStep_fit h
   · exact runGo_fit f (runStep_fit h)
  · exact h
theorem runF_fit (s : ByteArray) : Fit s (runF s) := runGo_fit _ ⟨Nat.zero_le _, by show 0 ≤ 5000; omega⟩
end Go.Proofs.YtecddphahiadlaaGreatDoor
