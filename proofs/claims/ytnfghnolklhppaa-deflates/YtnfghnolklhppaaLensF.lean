/- The lengths of kind 2 by the document: plain reckoning. -/
import Derived.Test.YtnfghnolklhppaaSymsF
import Derived.Test.YtnfghnolklhppaaOwn
namespace Go.Proofs.Ytnfghnolklhppaa
open Go.RowKit

def ordL : List Nat := [16, 17, 18, 0, 8, 7, 9, 6, 10, 5, 11, 4, 12, 3, 13, 2, 14, 1, 15]
def ordN (i : Nat) : Nat := ordL.getD i 0

theorem ordN_lt (i : Nat) (h : i < 19) : ordN i < 19 := by
  have : ∀ i, i < 19 → ordN i < 19 := by decide
  exact this i h

/-- The lengths of the lengths' codes: r more, from number i on. -/
def headGo (s : ByteArray) : Nat → Nat → (Nat → Nat) → St → (Nat → Nat) × St
  | 0, _, f, σ => (f, σ)
  | r + 1, i, f, σ => headGo s r (i + 1) (fun j => if j = ordN i then (numF s 3 σ).1 else f j) (numF s 3 σ).2

theorem headGo_lt (s : ByteArray) : ∀ (r i : Nat) (f : Nat → Nat) (σ : St), (∀ j, f j < 8) → ∀ j, (headGo s r i f σ).1 j < 8
  | 0, _, _, _, h, j => h j
  | r + 1, i, f, σ, h, j => by
    simp only [headGo]
    refine headGo_lt s r (i + 1) _ _ (fun j => ?_) j
    split
    · exact numF_lt s 3 σ
    · exact h j
theorem headGo_fit {s : ByteArray} : ∀ (r i : Nat) (f : Nat → Nat) {σ : St}, Fit s σ → Fit s (headGo s r i f σ).2
  | 0, _, _, _, h => h
  | r + 1, i, _, _, h => headGo_fit r (i + 1) _ (h.num 3)
theorem headGo_ge {s : ByteArray} : ∀ (r i : Nat) (f : Nat → Nat) (σ : St), σ.pos ≤ (headGo s r i f σ).2.pos
  | 0, _, _, _ => Nat.le_refl _
  | r + 1, i, _, σ => Nat.le_trans (numF_ge s 3 σ) (headGo_ge r (i + 1) _ _)

theorem symGo_rng {s : ByteArray} {c : Nat → ByteArray} {n : Nat} : ∀ (f : Nat) (cur : ByteArray) (σ : St), -1 ≤ (symGo s c n f cur σ).1 ∧ (symGo s c n f cur σ).1 < (n : Int)
  | 0, _, _ => by show -1 ≤ (-1 : Int) ∧ (-1 : Int) < n; omega
  | f + 1, cur, σ => by
    simp only [symGo]
    cases hh : hitF c cur n 0 with
    | some i =>
      have := hitF_lt (n := n) n 0 (by omega) i hh
      show -1 ≤ (i : Int) ∧ (i : Int) < n
      omega
    | none =>
      simp only
      split
      · split
        · exact symGo_rng f _ _
        · show -1 ≤ (-1 : Int) ∧ (-1 : Int) < n; omega
      · show -1 ≤ (-1 : Int) ∧ (-1 : Int) < n; omega
theorem symF_rng {s : ByteArray} {c : Nat → ByteArray} {n : Nat} (σ : St) : -1 ≤ (symF s c n σ).1 ∧ (symF s c n σ).1 < (n : Int) := symGo_rng _ _ _

/-- One symbol of the lengths: how many, what, and how far the stream is; the flag: nothing to be said again. -/
def lenStep (s : ByteArray) (L : List Int) (k : Int × St) : Bool × Nat × Int × St :=
  if k.1 < 16 then (false, 1, k.1, k.2)
  else if k.1 = 16 then (if L.length = 0 then (true, 0, 0, stopF k.2 1) else (false, (numF s 2 k.2).1 + 3, L.getD (L.length - 1) 0, (numF s 2 k.2).2))
  else if k.1 = 17 then (false, (numF s 3 k.2).1 + 3, 0, (numF s 3 k.2).2)
  else (false, (numF s 7 k.2).1 + 11, 0, (numF s 7 k.2).2)

def lenGo (s : ByteArray) (c : Nat → ByteArray) (n : Nat) : Nat → List Int → St → List Int × St
  | 0, L, σ => (L, σ)
  | f + 1, L, σ => if L.length < n ∧ σ.why = 0 then
      (if (lenStep s L (symF s c 19 σ)).1 = true then ([], (lenStep s L (symF s c 19 σ)).2.2.2)
       else lenGo s c n f (L ++ List.replicate (lenStep s L (symF s c 19 σ)).2.1 (lenStep s L (symF s c 19 σ)).2.2.1) (lenStep s L (symF s c 19 σ)).2.2.2)
    else (L, if n < L.length then stopF σ 1 else σ)

/-- The head's lengths as numbers. -/
def headZ (f : Nat → Nat) (i : Nat) : Int := (f i : Int)

/-- Behind the head: a = the lengths of the lengths' codes. -/
def lensTail (s : ByteArray) (n : Nat) (a : (Nat → Nat) × St) : List Int × St :=
  if a.2.why ≠ 0 then ([], a.2) else if ks0 (headZ a.1) 19 ≠ 32768 then ([], stopF a.2 1) else lenGo s (codeT (headZ a.1) 19) n (n + 1) [] a.2

def lensF (s : ByteArray) (n many : Nat) (σ : St) : List Int × St := lensTail s n (headGo s many 0 (fun _ => 0) σ)

theorem Fit.lenStep {s : ByteArray} {L : List Int} {k : Int × St} (h : Fit s k.2) : Fit s (lenStep s L k).2.2.2 := by
  have h2 : Fit s (numF s 2 k.2).2 := Fit.num 2 h
  have h3 : Fit s (numF s 3 k.2).2 := Fit.num 3 h
  have h7 : Fit s (numF s 7 k.2).2 := Fit.num 7 h
  unfold Go.Proofs.Ytnfghnolklhppaa.lenStep
  generalize numF s 2 k.2 = q2 at h2 ⊢
  generalize numF s 3 k.2 = q3 at h3 ⊢
  generalize numF s 7 k.2 = q7 at h7 ⊢
  split
  · exact h
  · split
    · split
      · exact h.stop 1
      · exact h2
    · split
      · exact h3
      · exact h7
theorem lenStep_ge (s : ByteArray) (L : List Int) (k : Int × St) : k.2.pos ≤ (lenStep s L k).2.2.2.pos := by
  have h2 := numF_ge s 2 k.2
  have h3 := numF_ge s 3 k.2
  have h7 := numF_ge s 7 k.2
  unfold lenStep
  generalize numF s 2 k.2 = q2 at h2 ⊢
  generalize numF s 3 k.2 = q3 at h3 ⊢
  generalize numF s 7 k.2 = q7 at h7 ⊢
  split
  · exact Nat.le_refl _
  · split
    · split
      · rw [stopF_pos]; exact Nat.le_refl _
      · exact h2
    · split
      · exact h3
      · exact h7
theorem lenStep_one {s : ByteArray} {L : List Int} {k : Int × St} (h : (lenStep s L k).1 = false) : 1 ≤ (lenStep s L k).2.1 := by
  unfold lenStep at h ⊢
  split
  · exact Nat.le_refl _
  · next h1 =>
    split
    · next h2 =>
      split
      · next h3 => rw [if_neg h1, if_pos h2, if_pos h3] at h; simp at h
      · show 1 ≤ _ + 3; omega
    · split
      · show 1 ≤ _ + 3; omega
      · show 1 ≤ _ + 11; omega
theorem lenStep_most (s : ByteArray) (L : List Int) (k : Int × St) : (lenStep s L k).2.1 ≤ 138 := by
  have n2 := numF_lt s 2 k.2
  have n3 := numF_lt s 3 k.2
  have n7 := numF_lt s 7 k.2
  unfold lenStep
  split
  · show 1 ≤ 138; omega
  · split
    · split
      · show 0 ≤ 138; omega
      · show _ + 3 ≤ 138; omega
    · split
      · show _ + 3 ≤ 138; omega
      · show _ + 11 ≤ 138; omega
theorem lenGo_fit {s : ByteArray} {c : Nat → ByteArray} {n : Nat} : ∀ (f : Nat) (L : List Int) {σ : St}, Fit s σ → Fit s (lenGo s c n f L σ).2
  | 0, _, _, h => h
  | f + 1, L, σ, h => by
    simp only [lenGo]
    split
    · split
      · exact h.symF.lenStep
      · exact lenGo_fit f _ h.symF.lenStep
    · show Fit s (if n < L.length then stopF σ 1 else σ)
      split
      · exact h.stop 1
      · exact h
theorem lenGo_ge {s : ByteArray} {c : Nat → ByteArray} {n : Nat} : ∀ (f : Nat) (L : List Int) (σ : St), σ.pos ≤ (lenGo s c n f L σ).2.pos
  | 0, _, _ => Nat.le_refl _
  | f + 1, L, σ => by
    have h1 : σ.pos ≤ (lenStep s L (symF s c 19 σ)).2.2.2.pos := Nat.le_trans (symF_ge σ) (lenStep_ge _ _ _)
    simp only [lenGo]
    split
    · split
      · exact h1
      · exact Nat.le_trans h1 (lenGo_ge f _ _)
    · show σ.pos ≤ (if n < L.length then stopF σ 1 else σ).pos
      split
      · rw [stopF_pos]; exact Nat.le_refl _
      · exact Nat.le_refl _

theorem bitF_alive {s : ByteArray} {σ : St} (h : (bitF s σ).2.why = 0) : σ.why = 0 := by
  by_cases hy : σ.why = 0
  · exact hy
  · rw [bitF_dead hy] at h; exact h
theorem numF_alive {s : ByteArray} : ∀ (n : Nat) {σ : St}, (numF s n σ).2.why = 0 → σ.why = 0
  | 0, _, h => h
  | n + 1, _, h => bitF_alive (numF_alive n h)

theorem rng_append {L : List Int} {x : Int} {m : Nat} (h : ∀ y ∈ L, 0 ≤ y ∧ y ≤ 15) (hx : 0 ≤ x ∧ x ≤ 15) : ∀ y ∈ L ++ List.replicate m x, 0 ≤ y ∧ y ≤ 15 := by
  intro y hy
  rcases List.mem_append.1 hy with hy | hy
  · exact h y hy
  · rw [List.eq_of_mem_replicate hy]; exact hx

theorem lenStep_alive {s : ByteArray} {L : List Int} {k : Int × St} (h : (lenStep s L k).2.2.2.why = 0) : k.2.why = 0 := by
  have h2 := numF_alive (s := s) 2 (σ := k.2)
  have h3 := numF_alive (s := s) 3 (σ := k.2)
  have h7 := numF_alive (s := s) 7 (σ := k.2)
  unfold lenStep at h
  generalize numF s 2 k.2 = q2 at h2 h
  generalize numF s 3 k.2 = q3 at h3 h
  generalize numF s 7 k.2 = q7 at h7 h
  split at h
  · exact h
  · split at h
    · split at h
      · exact absurd h (stopF_why (by omega))
      · exact h2 h
    · split at h
      · exact h3 h
      · exact h7 h

theorem lenStep_rng {s : ByteArray} {L : List Int} {k : Int × St} (hk : 0 ≤ k.1) (hL : ∀ y ∈ L, 0 ≤ y ∧ y ≤ 15) (h1 : (lenStep s L k).1 = false) : 0 ≤ (lenStep s L k).2.2.1 ∧ (lenStep s L k).2.2.1 ≤ 15 := by
  unfold lenStep at h1 ⊢
  by_cases c1 : k.1 < 16
  · rw [if_pos c1]
    show 0 ≤ k.1 ∧ k.1 ≤ 15
    omega
  · rw [if_neg c1] at h1 ⊢
    by_cases c2 : k.1 = 16
    · rw [if_pos c2] at h1 ⊢
      by_cases c3 : L.length = 0
      · rw [if_pos c3] at h1; simp at h1
      · rw [if_neg c3]
        show 0 ≤ L.getD (L.length - 1) 0 ∧ L.getD (L.length - 1) 0 ≤ 15
        have e : L.getD (L.length - 1) 0 = L[L.length - 1]'(by omega) := by
          rw [List.getD_eq_getElem?_getD, List.getElem?_eq_getElem (by omega)]; rfl
        rw [e]
        exact hL _ (List.getElem_mem _)
    · rw [if_neg c2]
      split
      · show (0 : Int) ≤ 0 ∧ (0 : Int) ≤ 15; omega
      · show (0 : Int) ≤ 0 ∧ (0 : Int) ≤ 15; omega

theorem lenGo_alive {s : ByteArray} {c : Nat → ByteArray} {n : Nat} : ∀ (f : Nat) {L : List Int} {σ : St}, (lenGo s c n f L σ).2.why = 0 → σ.why = 0
  | 0, _, _, h => h
  | f + 1, L, σ, h => by
    simp only [lenGo] at h
    split at h
    · next hc => exact hc.2
    · by_cases hn : n < L.length
      · have h' : (if n < L.length then stopF σ 1 else σ).why = 0 := h
        rw [if_pos hn] at h'
        exact absurd h' (stopF_why (by omega))
      · have h' : (if n < L.length then stopF σ 1 else σ).why = 0 := h
        rw [if_neg hn] at h'
        exact h'

/-- What comes is of 0 to 15, and so many, as long as nothing is wrong. -/
theorem lenGo_rng {s : ByteArray} {c : Nat → ByteArray} {n : Nat} (hc : ∀ i, i < 19 → (c i).size ≤ 15) : ∀ (f : Nat) (L : List Int) (σ : St), n + 1 ≤ L.length + f → (f = 0 → False) → (∀ y ∈ L, 0 ≤ y ∧ y ≤ 15) → (lenGo s c n f L σ).2.why = 0 → (∀ y ∈ (lenGo s c n f L σ).1, 0 ≤ y ∧ y ≤ 15) ∧ (lenGo s c n f L σ).1.length = n
  | 0, _, _, _, h0, _, _ => (h0 rfl).elim
  | f + 1, L, σ, hf, _, hL, hw => by
    have ha : σ.why = 0 := lenGo_alive (f + 1) hw
    simp only [lenGo] at hw ⊢
    by_cases h1 : L.length < n ∧ σ.why = 0
    · rw [if_pos h1] at hw ⊢
      by_cases h2 : (lenStep s L (symF s c 19 σ)).1 = true
      · rw [if_pos h2] at hw
        unfold lenStep at hw h2
        split at h2
        · simp at h2
        · next c1 =>
          split at h2
          · next c2 =>
            split at h2
            · next c3 =>
              rw [if_neg c1, if_pos c2, if_pos c3] at hw
              exact absurd hw (stopF_why (by omega))
            · simp at h2
          · split at h2
            · simp at h2
            · simp at h2
      · rw [if_neg h2] at hw ⊢
        have h3 : (lenStep s L (symF s c 19 σ)).1 = false := by
          cases h : (lenStep s L (symF s c 19 σ)).1
          · rfl
          · exact absurd h h2
        have h4 := lenStep_one h3
        have h5 := lenStep_alive (lenGo_alive f hw)
        obtain ⟨k, hk, hk1⟩ := symF_fst hc σ h5
        have h6 := lenStep_rng (s := s) (L := L) (k := symF s c 19 σ) (by rw [hk1]; omega) hL h3
        refine lenGo_rng hc f _ _ (by rw [List.length_append, List.length_replicate]; omega) (fun e => ?_) (rng_append hL h6) hw
        omega
    · have h2 : ¬ L.length < n := fun h => h1 ⟨h, ha⟩
      rw [if_neg h1] at hw ⊢
      have hw' : (if n < L.length then stopF σ 1 else σ).why = 0 := hw
      by_cases hn : n < L.length
      · rw [if_pos hn] at hw'
        exact absurd hw' (stopF_why (by omega))
      · exact ⟨hL, by show L.length = n; omega⟩

end Go.Proofs.Ytnfghnolklhppaa
