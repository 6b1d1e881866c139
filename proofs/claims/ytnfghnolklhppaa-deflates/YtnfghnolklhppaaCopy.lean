/- Lengths and distances by the document: plain reckoning. -/
import Derived.Test.YtnfghnolklhppaaRef4
namespace Go.Proofs.Ytnfghnolklhppaa
open Go.RowKit

/-- n bytes from further ahead. -/
def copyF (back : Nat) : Nat → List UInt8 → List UInt8
  | 0, t => t
  | n + 1, t => copyF back n (t ++ [t.getD (t.length - back) 0])

theorem copyF_length (back : Nat) : ∀ (n : Nat) (t : List UInt8), (copyF back n t).length = t.length + n
  | 0, t => rfl
  | n + 1, t => by simp only [copyF]; rw [copyF_length back n, List.length_append]; simp; omega

def pairN (y : Nat) : Nat := if y = 285 then 258 else baseN 3 8 4 (y - 257)
def pairM (y : Nat) : Nat := if y = 285 then 0 else moreN 8 4 (y - 257)

/-- What is done once both numbers are read. -/
def pairEnd (n back : Nat) (σ : St) : St :=
  if σ.why ≠ 0 then σ else if σ.text.length < back then stopF σ 1 else if 5000 < σ.text.length + n then stopF σ 3 else { σ with text := copyF back n σ.text }

def distSt (k : Int × St) : St := if k.2.why = 0 ∧ 29 < k.1 then stopF k.2 1 else k.2
/-- Behind the distance's symbol. -/
def pairDist (s : ByteArray) (n : Nat) (k : Int × St) : St :=
  if (distSt k).why ≠ 0 then distSt k
  else pairEnd n (baseN 1 4 2 k.1.toNat + (numF s (moreN 4 2 k.1.toNat) k.2).1) (numF s (moreN 4 2 k.1.toNat) k.2).2

def pairF (s : ByteArray) (c : Nat → ByteArray) (n y : Nat) (σ : St) : St :=
  pairDist s (pairN y + (numF s (pairM y) σ).1) (symF s c n (numF s (pairM y) σ).2)

theorem pairM_le (y : Nat) (h1 : 257 ≤ y) (h2 : y ≤ 285) : pairM y ≤ 8 := by
  unfold pairM moreN
  split
  · omega
  · split
    · omega
    · omega
theorem pairN_le (y : Nat) (h2 : y ≤ 285) : pairN y ≤ 2000000 := by
  unfold pairN
  split
  · omega
  · have := baseN_le 3 8 4 (by omega) (by omega) (y - 257) (by omega)
    omega

theorem baseN_pos (first none each : Nat) (hf : 1 ≤ first) : ∀ i, 1 ≤ baseN first none each i
  | 0 => hf
  | i + 1 => by exact Nat.le_trans (baseN_pos first none each hf i) (Nat.le_add_right _ _)

theorem stopF_why {σ : St} {y : Nat} (hy : y ≠ 0) : (stopF σ y).why ≠ 0 := by
  unfold stopF
  split
  · exact hy
  · assumption

theorem hitF_lt {c : Nat → ByteArray} {cur : ByteArray} {n : Nat} : ∀ (r k : Nat), k + r = n → ∀ i, hitF c cur r k = some i → i < n
  | 0, _, _, i, h => by simp [hitF] at h
  | r + 1, k, hk, i, h => by
    simp only [hitF] at h
    split at h
    · obtain rfl := Option.some.inj h; omega
    · exact hitF_lt r (k + 1) (by omega) i h

theorem bitF_text (s : ByteArray) (σ : St) : (bitF s σ).2.text = σ.text := by
  unfold bitF
  split
  · rfl
  · split <;> rfl
theorem numF_text (s : ByteArray) : ∀ (n : Nat) (σ : St), (numF s n σ).2.text = σ.text
  | 0, _ => rfl
  | n + 1, σ => by simp only [numF]; rw [numF_text s n, bitF_text]

theorem symGo_fst {s : ByteArray} {c : Nat → ByteArray} {n : Nat} (hc : ∀ i, i < n → (c i).size ≤ 15) : ∀ (f : Nat) (cur : ByteArray) (σ : St), cur.size + f = 17 → cur.size ≤ 15 → (symGo s c n f cur σ).2.why = 0 → ∃ k : Nat, k < n ∧ (symGo s c n f cur σ).1 = (k : Int)
  | 0, cur, σ, h1, h2, _ => by omega
  | f + 1, cur, σ, h1, h2, hw => by
    simp only [symGo] at hw ⊢
    cases hh : hitF c cur n 0 with
    | some i =>
      rw [hh] at hw
      exact ⟨i, hitF_lt n 0 (by omega) i hh, rfl⟩
    | none =>
      simp only [hh] at hw ⊢
      by_cases hsb : someB c cur n = true
      · rw [if_pos hsb] at hw ⊢
        by_cases hb : (bitF s σ).2.why = 0
        · rw [if_pos hb] at hw ⊢
          have hsz := someB_size hc hsb
          have hl := letB_size cur (bitF s σ).1 (bitF_lt s σ)
          exact symGo_fst hc f _ _ (by omega) (by omega) hw
        · rw [if_neg hb] at hw
          exact absurd hw hb
      · rw [if_neg hsb] at hw
        exact absurd hw (stopF_why (by omega))

theorem symF_fst {s : ByteArray} {c : Nat → ByteArray} {n : Nat} (hc : ∀ i, i < n → (c i).size ≤ 15) (σ : St) (hw : (symF s c n σ).2.why = 0) : ∃ k : Nat, k < n ∧ (symF s c n σ).1 = (k : Int) :=
  symGo_fst hc 17 .empty σ rfl (by decide) hw

theorem Fit.sym {s : ByteArray} {c : Nat → ByteArray} {n : Nat} : ∀ (f : Nat) (cur : ByteArray) {σ : St}, Fit s σ → Fit s (symGo s c n f cur σ).2
  | 0, _, _, h => h
  | f + 1, cur, σ, h => by
    simp only [symGo]
    split
    · exact h
    · split
      · split
        · exact Fit.sym f _ h.bit
        · exact h.bit
      · exact h.stop 1

theorem Fit.symF {s : ByteArray} {c : Nat → ByteArray} {n : Nat} {σ : St} (h : Fit s σ) : Fit s (symF s c n σ).2 := Fit.sym 17 _ h

theorem Fit.pairEnd {s : ByteArray} {n back : Nat} {σ : St} (h : Fit s σ) : Fit s (pairEnd n back σ) := by
  unfold Go.Proofs.Ytnfghnolklhppaa.pairEnd
  split
  · exact h
  · split
    · exact h.stop 1
    · split
      · exact h.stop 3
      · exact ⟨h.pos, by show (copyF back n σ.text).length ≤ 5000; rw [copyF_length]; omega⟩

theorem Fit.pairF {s : ByteArray} {c : Nat → ByteArray} {n y : Nat} {σ : St} (h : Fit s σ) : Fit s (pairF s c n y σ) := by
  have h1 : Fit s (Go.Proofs.Ytnfghnolklhppaa.symF s c n (numF s (pairM y) σ).2).2 := (h.num _).symF
  unfold Go.Proofs.Ytnfghnolklhppaa.pairF pairDist
  generalize Go.Proofs.Ytnfghnolklhppaa.symF s c n (numF s (pairM y) σ).2 = k at h1 ⊢
  split
  · unfold distSt
    split
    · exact h1.stop 1
    · exact h1
  · exact (h1.num _).pairEnd

end Go.Proofs.Ytnfghnolklhppaa
