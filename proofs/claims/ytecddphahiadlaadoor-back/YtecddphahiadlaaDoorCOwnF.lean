/- The codes of kind 2 by the document: plain reckoning. -/
import Derived.Test.YtecddphahiadlaaDoorCLens
namespace Go.Proofs.YtecddphahiadlaaDoor
open Go.RowKit

def stop29 (p : Nat × St) : St := if p.2.why = 0 ∧ 29 < p.1 then stopF p.2 1 else p.2

theorem stop29_le {p : Nat × St} (h : (stop29 p).why = 0) : p.1 ≤ 29 ∧ stop29 p = p.2 := by
  unfold stop29 at h ⊢
  by_cases c : p.2.why = 0 ∧ 29 < p.1
  · rw [if_pos c] at h
    exact absurd h (stopF_why (by omega))
  · rw [if_neg c] at h ⊢
    exact ⟨by omega, rfl⟩
theorem Fit.stop29 {s : ByteArray} {p : Nat × St} (h : Fit s p.2) : Fit s (stop29 p) := by
  unfold Go.Proofs.YtecddphahiadlaaDoor.stop29
  split
  · exact h.stop 1
  · exact h

/-- The three numbers at the head of kind 2. -/
structure Head where
  a : Nat
  b : Nat
  c : Nat
  st : St

def headF (s : ByteArray) (σ : St) : Head :=
  ⟨(numF s 5 σ).1, (numF s 5 (stop29 (numF s 5 σ))).1, (numF s 4 (stop29 (numF s 5 (stop29 (numF s 5 σ))))).1, (numF s 4 (stop29 (numF s 5 (stop29 (numF s 5 σ))))).2⟩

def lenZ (L : List Int) (off i : Nat) : Int := L.getD (off + i) 0

def badL (L : List Int) (a b : Nat) : Bool :=
  !(ks0 (lenZ L 0) (a + 257) == 32768) || L.getD 256 0 == 0 ||
    (!(ks0 (lenZ L (a + 257)) (b + 1) == 32768) && decide (0 < usedN (lenZ L (a + 257)) (b + 1)) && !(usedN (lenZ L (a + 257)) (b + 1) == 1 && ks0 (lenZ L (a + 257)) (b + 1) == 16384))

/-- Behind the lengths. -/
def ownEnd (p : List Int × St) (a b : Nat) : St := if p.2.why = 0 ∧ badL p.1 a b = true then stopF p.2 1 else p.2

/-- The lengths, and how far the stream is. -/
def ownF (s : ByteArray) (σ : St) : List Int × St :=
  if (headF s σ).st.why ≠ 0 then ([], (headF s σ).st)
  else ((lensF s ((headF s σ).a + (headF s σ).b + 258) ((headF s σ).c + 4) (headF s σ).st).1, ownEnd (lensF s ((headF s σ).a + (headF s σ).b + 258) ((headF s σ).c + 4) (headF s σ).st) (headF s σ).a (headF s σ).b)

theorem usedN_zero {z : Nat → Int} : ∀ {n : Nat}, usedN z n = 0 → ks0 z n = 0 := by
  intro n
  induction n with
  | zero => intro _; rfl
  | succ n ih =>
    intro h
    simp only [usedN] at h
    simp only [ks0]
    by_cases c : 0 < z n
    · rw [if_pos c] at h; omega
    · rw [if_neg c] at h ⊢
      rw [ih (by omega)]

theorem badL_not {L : List Int} {a b : Nat} (h : badL L a b = false) : ks0 (lenZ L 0) (a + 257) = 32768 ∧ L.getD 256 0 ≠ 0 ∧ ks0 (lenZ L (a + 257)) (b + 1) ≤ 32768 := by
  unfold badL at h
  have hz := usedN_zero (z := lenZ L (a + 257)) (n := b + 1)
  generalize ks0 (lenZ L 0) (a + 257) = m at h ⊢
  generalize ks0 (lenZ L (a + 257)) (b + 1) = n at h hz ⊢
  generalize usedN (lenZ L (a + 257)) (b + 1) = k at h hz
  generalize L.getD 256 0 = x at h ⊢
  simp only [Bool.or_eq_false_iff, Bool.and_eq_false_iff, Bool.not_eq_eq_eq_not, Bool.not_false, beq_iff_eq, beq_eq_false_iff_ne, decide_eq_false_iff_not, Bool.and_eq_true] at h
  obtain ⟨⟨h1, h2⟩, h3⟩ := h
  refine ⟨h1, h2, ?_⟩
  rcases h3 with (h3 | h3) | h3
  · omega
  · have := hz (by omega); omega
  · omega

end Go.Proofs.YtecddphahiadlaaDoor
