/- A block of symbols by the document: plain reckoning. -/
import Derived.Test.YtnfghnolklhppaaCopy
namespace Go.Proofs.Ytnfghnolklhppaa
open Go.RowKit

/-- How many letters there are in the first k codes. -/
def thereN (c : Nat → ByteArray) : Nat → Nat
  | 0 => 0
  | k + 1 => thereN c k + (c k).size

theorem thereN_le {c : Nat → ByteArray} : ∀ (k : Nat), (∀ i, i < k → (c i).size ≤ 15) → thereN c k ≤ 15 * k
  | 0, _ => Nat.le_refl _
  | k + 1, h => by
    have h1 := thereN_le k (fun i hi => h i (by omega))
    have h2 := h k (by omega)
    simp only [thereN]
    omega

/-- Behind a symbol k: is the block's end there, and how far the stream is. -/
def stepF (s : ByteArray) (c : Nat → ByteArray) (n there : Nat) (k : Int × St) : Bool × St :=
  if k.2.why ≠ 0 ∨ k.1 = 256 then (true, k.2)
  else if k.1 < 256 then (false, putF k.2 (UInt8.ofNat k.1.toNat))
  else if 285 < k.1 ∨ there = 0 then (false, stopF k.2 1)
  else (false, pairF s c n k.1.toNat k.2)

def codedGo (s : ByteArray) (l : Nat → ByteArray) (nl : Nat) (d : Nat → ByteArray) (nd : Nat) : Nat → St → St
  | 0, σ => σ
  | f + 1, σ => if σ.why ≠ 0 then σ else if (stepF s d nd (thereN d nd) (symF s l nl σ)).1 = true then (stepF s d nd (thereN d nd) (symF s l nl σ)).2
    else codedGo s l nl d nd f (stepF s d nd (thereN d nd) (symF s l nl σ)).2

def codedF (s : ByteArray) (l : Nat → ByteArray) (nl : Nat) (d : Nat → ByteArray) (nd : Nat) (σ : St) : St := codedGo s l nl d nd (8 * s.size + 1) σ

/-- What is left to read. -/
def restN (s : ByteArray) (σ : St) : Nat := 8 * s.size - σ.pos + if σ.why = 0 then 1 else 0

theorem bitF_ge (s : ByteArray) (σ : St) : σ.pos ≤ (bitF s σ).2.pos := by
  unfold bitF
  split
  · exact Nat.le_refl _
  · split
    · exact Nat.le_refl _
    · exact Nat.le_succ _
theorem bitF_more {s : ByteArray} {σ : St} (h : (bitF s σ).2.why = 0) : σ.pos < (bitF s σ).2.pos := by
  unfold bitF at h ⊢
  split at h
  · next h1 => exact absurd h h1
  · next h1 =>
    rw [if_neg h1]
    split at h
    · simp at h
    · next h2 => rw [if_neg h2]; exact Nat.lt_succ_self _
theorem numF_ge (s : ByteArray) : ∀ (n : Nat) (σ : St), σ.pos ≤ (numF s n σ).2.pos
  | 0, _ => Nat.le_refl _
  | n + 1, σ => Nat.le_trans (bitF_ge s σ) (numF_ge s n _)
theorem stopF_pos (σ : St) (y : Nat) : (stopF σ y).pos = σ.pos := by
  unfold stopF; split <;> rfl
theorem putF_pos (σ : St) (c : UInt8) : (putF σ c).pos = σ.pos := by
  unfold putF
  split
  · rfl
  · split <;> rfl
theorem symGo_ge {s : ByteArray} {c : Nat → ByteArray} {n : Nat} : ∀ (f : Nat) (cur : ByteArray) (σ : St), σ.pos ≤ (symGo s c n f cur σ).2.pos
  | 0, _, _ => Nat.le_refl _
  | f + 1, cur, σ => by
    simp only [symGo]
    split
    · exact Nat.le_refl _
    · split
      · split
        · exact Nat.le_trans (bitF_ge s σ) (symGo_ge f _ _)
        · exact bitF_ge s σ
      · rw [stopF_pos]; exact Nat.le_refl _
theorem hitF_empty {c : Nat → ByteArray} : ∀ (r k : Nat), hitF c .empty r k = none
  | 0, _ => rfl
  | r + 1, k => by
    rw [hitF_step, hitF_empty r (k + 1)]
    unfold hitB
    cases h : (c k).toList with
    | nil => rfl
    | cons x l => simp
theorem symGo_more {s : ByteArray} {c : Nat → ByteArray} {n f : Nat} {σ : St} (h : (symGo s c n (f + 1) .empty σ).2.why = 0) : σ.pos < (symGo s c n (f + 1) .empty σ).2.pos := by
  simp only [symGo, hitF_empty] at h ⊢
  by_cases hs : someB c .empty n = true
  · rw [if_pos hs] at h ⊢
    by_cases hb : (bitF s σ).2.why = 0
    · rw [if_pos hb] at h ⊢
      exact Nat.lt_of_lt_of_le (bitF_more hb) (symGo_ge _ _ _)
    · rw [if_neg hb] at h
      exact absurd h hb
  · rw [if_neg hs] at h
    exact absurd h (stopF_why (by omega))
theorem symF_more {s : ByteArray} {c : Nat → ByteArray} {n : Nat} {σ : St} (h : (symF s c n σ).2.why = 0) : σ.pos < (symF s c n σ).2.pos := symGo_more (f := 16) h
theorem symF_ge {s : ByteArray} {c : Nat → ByteArray} {n : Nat} (σ : St) : σ.pos ≤ (symF s c n σ).2.pos := symGo_ge _ _ _
theorem pairEnd_pos (n back : Nat) (σ : St) : (pairEnd n back σ).pos = σ.pos := by
  unfold pairEnd
  split
  · rfl
  · split
    · exact stopF_pos _ _
    · split
      · exact stopF_pos _ _
      · rfl
theorem pairF_ge (s : ByteArray) (c : Nat → ByteArray) (n y : Nat) (σ : St) : σ.pos ≤ (pairF s c n y σ).pos := by
  have h1 : σ.pos ≤ (symF s c n (numF s (pairM y) σ).2).2.pos := Nat.le_trans (numF_ge s _ σ) (symF_ge _)
  unfold pairF pairDist
  generalize symF s c n (numF s (pairM y) σ).2 = k at h1 ⊢
  split
  · unfold distSt
    split
    · rw [stopF_pos]; exact h1
    · exact h1
  · rw [pairEnd_pos]
    exact Nat.le_trans h1 (numF_ge s _ _)
theorem stepF_ge (s : ByteArray) (c : Nat → ByteArray) (n there : Nat) (k : Int × St) : k.2.pos ≤ (stepF s c n there k).2.pos := by
  unfold stepF
  split
  · exact Nat.le_refl _
  · split
    · rw [putF_pos]; exact Nat.le_refl _
    · split
      · rw [stopF_pos]; exact Nat.le_refl _
      · exact pairF_ge _ _ _ _ _

theorem Fit.stepF {s : ByteArray} {c : Nat → ByteArray} {n there : Nat} {k : Int × St} (h : Fit s k.2) : Fit s (stepF s c n there k).2 := by
  unfold Go.Proofs.Ytnfghnolklhppaa.stepF
  split
  · exact h
  · split
    · exact h.put _
    · split
      · exact h.stop 1
      · exact h.pairF

theorem restN_sym {s : ByteArray} {l : Nat → ByteArray} {nl : Nat} {c : Nat → ByteArray} {n there : Nat} {σ : St} (hf : Fit s σ) (hy : σ.why = 0) (hk : (symF s l nl σ).2.why = 0) :
    restN s (stepF s c n there (symF s l nl σ)).2 < restN s σ := by
  have h1 := symF_more hk
  have h2 := stepF_ge s c n there (symF s l nl σ)
  have h3 := (Fit.stepF (c := c) (n := n) (there := there) (Fit.symF (c := l) (n := nl) hf)).pos
  have h4 := hf.pos
  unfold restN
  rw [if_pos hy]
  split <;> omega

theorem codedGo_dead {s : ByteArray} {l : Nat → ByteArray} {nl : Nat} {d : Nat → ByteArray} {nd : Nat} {σ : St} (h : σ.why ≠ 0) (f : Nat) : codedGo s l nl d nd f σ = σ := by
  cases f with
  | zero => rfl
  | succ f => simp only [codedGo]; rw [if_pos h]
theorem codedF_dead {s : ByteArray} {l : Nat → ByteArray} {nl : Nat} {d : Nat → ByteArray} {nd : Nat} {σ : St} (h : σ.why ≠ 0) : codedF s l nl d nd σ = σ := codedGo_dead h _

theorem codedGo_fit {s : ByteArray} {l : Nat → ByteArray} {nl : Nat} {d : Nat → ByteArray} {nd : Nat} : ∀ (f : Nat) {σ : St}, Fit s σ → Fit s (codedGo s l nl d nd f σ)
  | 0, _, h => h
  | f + 1, σ, h => by
    simp only [codedGo]
    split
    · exact h
    · split
      · exact h.symF.stepF
      · exact codedGo_fit f h.symF.stepF
theorem codedGo_ge {s : ByteArray} {l : Nat → ByteArray} {nl : Nat} {d : Nat → ByteArray} {nd : Nat} : ∀ (f : Nat) (σ : St), σ.pos ≤ (codedGo s l nl d nd f σ).pos
  | 0, _ => Nat.le_refl _
  | f + 1, σ => by
    have h1 : σ.pos ≤ (stepF s d nd (thereN d nd) (symF s l nl σ)).2.pos := Nat.le_trans (symF_ge σ) (stepF_ge _ _ _ _ _)
    simp only [codedGo]
    split
    · exact Nat.le_refl _
    · split
      · exact h1
      · exact Nat.le_trans h1 (codedGo_ge f _)

end Go.Proofs.Ytnfghnolklhppaa
