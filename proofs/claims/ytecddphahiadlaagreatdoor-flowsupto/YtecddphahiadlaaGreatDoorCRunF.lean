import Derived.Test.YtecddphahiadlaaGreatDoorCPair
import Derived.Test.YtecddphahiadlaaGreatDoorCOwn
import Derived.Test.YtecddphahiadlaaGreatDoorCFixed
/- A block of symbols by the document: plain reckoning. -/
namespace Go.Proofs.YtecddphahiadlaaGreatDoor
open Go.RowKit

/-- How many letters there are in the first k codes. -/
def thereN (c : Nat → ByteArray) : Nat → Nat
  | 0 => 0
  | k + 1 => thereN c k + (c k).size

theorem thereN_le {c : Nat → ByteArray} : ∀ (k : Nat), (∀ i, i < k → (c i).size ≤ 15) → thereN c k ≤ 15 * k
  | 0, _ => Nat.le_refl _
  | k + 1, h => by
    have h1 := thereN_le k (fun i hi => h i (by omega))
    have h2 := h k (by omega)
    simp only [thereN]
    omega

/-- Behind a symbol k: is the block's end there, and how far the stream is. -/
def stepF (s : ByteArray) (c : Nat → ByteArray) (n there : Nat) (k : Int × St) : Bool × St :=
  if k.2.why ≠ 0 ∨ k.1 = 256 then (true, k.2)
  else if k.1 < 256 then (false, putF k.2 (UInt8.ofNat k.1.toNat))
  else if 285 < k.1 ∨ there = 0 then (false, stopF k.2 1)
  else (false, pairF s c n k.1.toNat k.2)

def codedGo (s : ByteArray) (l : Nat → ByteArray) (nl : Nat) (d : Nat → ByteArray) (nd : Nat) : Nat → St → St
  | 0, σ => σ
  | f + 1, σ => if σ.why ≠ 0 then σ else if (stepF s d nd (thereN d nd) (symF s l nl σ)).1 = true then (stepF s d nd (thereN d nd) (symF s l nl σ)).2
    else codedGo s l nl d nd f (stepF s d nd (thereN d nd) (symF s l nl σ)).2

def codedF (s : ByteArray) (l : Nat → ByteArray) (nl : Nat) (d : Nat → ByteArray) (nd : Nat) (σ : St) : St := codedGo s l nl d nd (8 * s.size + 1) σ

/-- What is left to read. -/
def restN (s : ByteArray) (σ : St) : Nat := 8 * s.size - σ.pos + if σ.why = 0 then 1 else 0

theorem bitF_ge (s : ByteArray) (σ : St) : σ.pos ≤ (bitF s σ).2.pos := by
  unfold bitF
  split
  · exact Nat.le_refl _
  · split
    · exact Nat.le_refl _
    · exact Nat.le_succ _
theorem bitF_more {s : ByteArray} {σ : St} (h : (bitF s σ).2.why = 0) : σ.pos < (bitF s σ).2.pos := by
  unfold bitF at h ⊢
  split at h
  · next h1 => exact absurd h h1
  · next h1 =>
    rw [if_neg h1]
    split at h
    · simp at h
    · next h2 => rw [if_neg h2]; exact Nat.lt_succ_self _
theorem numF_ge (s : ByteArray) : ∀ (n : Nat) (σ : St), σ.pos ≤ (numF s n σ).2.pos
  | 0, _ => Nat.le_refl _
  | n + 1, σ => Nat.le_trans (bitF_ge s σ) (numF_ge s n _)
theorem stopF_pos (σ : St) (y : Nat) : (stopF σ y).pos = σ.pos := by
  unfold stopF; split <;> rfl
theorem putF_pos (σ : St) (c : UInt8) : (putF σ c).pos = σ.pos := by
  unfold putF
  split
  · rfl
  · split <;> rfl
theorem symGo_ge {s : ByteArray} {c : Nat → ByteArray} {n : Nat} : ∀ (f : Nat) (cur : ByteArray) (σ : St), σ.pos ≤ (symGo s c n f cur σ).2.pos
  | 0, _, _ => Nat.le_refl _
  | f + 1, cur, σ => by
    simp only [symGo]
    split
    · exact Nat.le_refl _
    · split
      · split
        · exact Nat.le_trans (bitF_ge s σ) (symGo_ge f _ _)
        · exact bitF_ge s σ
      · rw [stopF_pos]; exact Nat.le_refl _
theorem hitF_empty {c : Nat → ByteArray} : ∀ (r k : Nat), hitF c .empty r k = none
  | 0, _ => rfl
  | r + 1, k => by
    rw [hitF_step, hitF_empty r (k + 1)]
    unfold hitB
    cases h : (c k).toList with
    | nil => rfl
    | cons x l => simp
theorem symGo_more {s : ByteArray} {c : Nat → ByteArray} {n f : Nat} {σ : St} (h : (symGo s c n (f + 1) .empty σ).2.why = 0) : σ.pos < (symGo s c n (f + 1) .empty σ).2.pos := by
  simp only [symGo, hitF_empty] at h ⊢
  by_cases hs : someB c .empty n = true
  · rw [if_pos hs] at h ⊢
    by_cases hb : (bitF s σ).2.why = 0
    · rw [if_pos hb] at h ⊢
      exact Nat.lt_of_lt_of_le (bitF_more hb) (symGo_ge _ _ _)
    · rw [if_neg hb] at h
      exact absurd h hb
  · rw [if_neg hs] at h
    exact absurd h (stopF_why (by omega))
theorem symF_more {s : ByteArray} {c : Nat → ByteArray} {n : Nat} {σ : St} (h : (symF s c n σ).2.why = 0) : σ.pos < (symF s c n σ).2.pos := symGo_more (f := 16) h
theorem symF_ge {s : ByteArray} {c : Nat → ByteArray} {n : Nat} (σ : St) : σ.pos ≤ (symF s c n σ).2.pos := symGo_ge _ _ _
theorem pairEnd_pos (n back : Nat) (σ : St) : (pairEnd n back σ).pos = σ.pos := by
  unfold pairEnd
  split
  · rfl
  · split
    · exact stopF_pos _ _
    · split
      · exact stopF_pos _ _
      · rfl
theorem pairF_ge (s : ByteArray) (c : Nat → ByteArray) (n y : Nat) (σ : St) : σ.pos ≤ (pairF s c n y σ).pos := by
  have h1 : σ.pos ≤ (symF s c n (numF s (pairM y) σ).2).2.pos := Nat.le_trans (numF_ge s _ σ) (symF_ge _)
  unfold pairF pairDist
  generalize symF s c n (numF s (pairM y) σ).2 = k at h1 ⊢
  split
  · unfold distSt
    split
    · rw [stopF_pos]; exact h1
    · exact h1
  · rw [pairEnd_pos]
    exact Nat.le_trans h1 (numF_ge s _ _)
theorem stepF_ge (s : ByteArray) (c : Nat → ByteArray) (n there : Nat) (k : Int × St) : k.2.pos ≤ (stepF s c n there k).2.pos := by
  unfold stepF
  split
  · exact Nat.le_refl _
  · split
    · rw [putF_pos]; exact Nat.le_refl _
    · split
      · rw [stopF_pos]; exact Nat.le_refl _
      · exact pairF_ge _ _ _ _ _

theorem Fit.stepF {s : ByteArray} {c : Nat → ByteArray} {n there : Nat} {k : Int × St} (h : Fit s k.2) : Fit s (stepF s c n there k).2 := by
  unfold Go.Proofs.YtecddphahiadlaaGreatDoor.stepF
  split
  · exact h
  · split
    · exact h.put _
    · split
      · exact h.stop 1
      · exact h.pairF

theorem restN_sym {s : ByteArray} {l : Nat → ByteArray} {nl : Nat} {c : Nat → ByteArray} {n there : Nat} {σ : St} (hf : Fit s σ) (hy : σ.why = 0) (hk : (symF s l nl σ).2.why = 0) :
    restN s (stepF s c n there (symF s l nl σ)).2 < restN s σ := by
  have h1 := symF_more hk
  have h2 := stepF_ge s c n there (symF s l nl σ)
  have h3 := (Fit.stepF (c := c) (n := n) (there := there) (Fit.symF (c := l) (n := nl) hf)).pos
  have h4 := hf.pos
  unfold restN
  rw [if_pos hy]
  split <;> omega

theorem codedGo_dead {s : ByteArray} {l : Nat → ByteArray} {nl : Nat} {d : Nat → ByteArray} {nd : Nat} {σ : St} (h : σ.why ≠ 0) (f : Nat) : codedGo s l nl d nd f σ = σ := by
  cases f with
  | zero => rfl
  | succ f => simp only [codedGo]; rw [if_pos h]
theorem codedF_dead {s : ByteArray} {l : Nat → ByteArray} {nl : Nat} {d : Nat → ByteArray} {nd : Nat} {σ : St} (h : σ.why ≠ 0) : codedF s l nl d nd σ = σ := codedGo_dead h _

theorem codedGo_fit {s : ByteArray} {l : Nat → ByteArray} {nl : Nat} {d : Nat → ByteArray} {nd : Nat} : ∀ (f : Nat) {σ : St}, Fit s σ → Fit s (codedGo s l nl d nd f σ)
  | 0, _, h => h
  | f + 1, σ, h => by
    simp only [codedGo]
    split
    · exact h
    · split
      · exact h.symF.stepF
      · exact codedGo_fit f h.symF.stepF
theorem codedGo_ge {s : ByteArray} {l : Nat → ByteArray} {nl : Nat} {d : Nat → ByteArray} {nd : Nat} : ∀ (f : Nat) (σ : St), σ.pos ≤ (codedGo s l nl d nd f σ).pos
  | 0, _ => Nat.le_refl _
  | f + 1, σ => by
    have h1 : σ.pos ≤ (stepF s d nd (thereN d nd) (symF s l nl σ)).2.pos := Nat.le_trans (symF_ge σ) (stepF_ge _ _ _ _ _)
    simp only [codedGo]
    split
    · exact Nat.le_refl _
    · split
      · exact h1
      · exact Nat.le_trans h1 (codedGo_ge f _)

end Go.Proofs.YtecddphahiadlaaGreatDoor

/- The lengths of kind 2 by the document: plain reckoning. -/
namespace Go.Proofs.YtecddphahiadlaaGreatDoor
open Go.RowKit

def ordL : List Nat := [16, 17, 18, 0, 8, 7, 9, 6, 10, 5, 11, 4, 12, 3, 13, 2, 14, 1, 15]
def ordN (i : Nat) : Nat := ordL.getD i 0

theorem ordN_lt (i : Nat) (h : i < 19) : ordN i < 19 := by
  have : ∀ i, i < 19 → ordN i < 19 := by decide
  exact this i h

/-- The lengths of the lengths' codes: r more, from number i on. -/
def headGo (s : ByteArray) : Nat → Nat → (Nat → Nat) → St → (Nat → Nat) × St
  | 0, _, f, σ => (f, σ)
  | r + 1, i, f, σ => headGo s r (i + 1) (fun j => if j = ordN i then (numF s 3 σ).1 else f j) (numF s 3 σ).2

theorem headGo_lt (s : ByteArray) : ∀ (r i : Nat) (f : Nat → Nat) (σ : St), (∀ j, f j < 8) → ∀ j, (headGo s r i f σ).1 j < 8
  | 0, _, _, _, h, j => h j
  | r + 1, i, f, σ, h, j => by
    simp only [headGo]
    refine headGo_lt s r (i + 1) _ _ (fun j => ?_) j
    split
    · exact numF_lt s 3 σ
    · exact h j
theorem headGo_fit {s : ByteArray} : ∀ (r i : Nat) (f : Nat → Nat) {σ : St}, Fit s σ → Fit s (headGo s r i f σ).2
  | 0, _, _, _, h => h
  | r + 1, i, _, _, h => headGo_fit r (i + 1) _ (h.num 3)
theorem headGo_ge {s : ByteArray} : ∀ (r i : Nat) (f : Nat → Nat) (σ : St), σ.pos ≤ (headGo s r i f σ).2.pos
  | 0, _, _, _ => Nat.le_refl _
  | r + 1, i, _, σ => Nat.le_trans (numF_ge s 3 σ) (headGo_ge r (i + 1) _ _)

theorem symGo_rng {s : ByteArray} {c : Nat → ByteArray} {n : Nat} : ∀ (f : Nat) (cur : ByteArray) (σ : St), -1 ≤ (symGo s c n f cur σ).1 ∧ (symGo s c n f cur σ).1 < (n : Int)
  | 0, _, _ => by show -1 ≤ (-1 : Int) ∧ (-1 : Int) < n; omega
  | f + 1, cur, σ => by
    simp only [symGo]
    cases hh : hitF c cur n 0 with
    | some i =>
      have := hitF_lt (n := n) n 0 (by omega) i hh
      show -1 ≤ (i : Int) ∧ (i : Int) < n
      omega
    | none =>
      simp only
      split
      · split
        · exact symGo_rng f _ _
        · show -1 ≤ (-1 : Int) ∧ (-1 : Int) < n; omega
      · show -1 ≤ (-1 : Int) ∧ (-1 : Int) < n; omega
theorem symF_rng {s : ByteArray} {c : Nat → ByteArray} {n : Nat} (σ : St) : -1 ≤ (symF s c n σ).1 ∧ (symF s c n σ).1 < (n : Int) := symGo_rng _ _ _

/-- One symbol of the lengths: how many, what, and how far the stream is; the flag: nothing to be said again. -/
def lenStep (s : ByteArray) (L : List Int) (k : Int × St) : Bool × Nat × Int × St :=
  if k.1 < 16 then (false, 1, k.1, k.2)
  else if k.1 = 16 then (if L.length = 0 then (true, 0, 0, stopF k.2 1) else (false, (numF s 2 k.2).1 + 3, L.getD (L.length - 1) 0, (numF s 2 k.2).2))
  else if k.1 = 17 then (false, (numF s 3 k.2).1 + 3, 0, (numF s 3 k.2).2)
  else (false, (numF s 7 k.2).1 + 11, 0, (numF s 7 k.2).2)

def lenGo (s : ByteArray) (c : Nat → ByteArray) (n : Nat) : Nat → List Int → St → List Int × St
  | 0, L, σ => (L, σ)
  | f + 1, L, σ => if L.length < n ∧ σ.why = 0 then
      (if (lenStep s L (symF s c 19 σ)).1 = true then ([], (lenStep s L (symF s c 19 σ)).2.2.2)
       else lenGo s c n f (L ++ List.replicate (lenStep s L (symF s c 19 σ)).2.1 (lenStep s L (symF s c 19 σ)).2.2.1) (lenStep s L (symF s c 19 σ)).2.2.2)
    else (L, if n < L.length then stopF σ 1 else σ)

/-- The head's lengths as numbers. -/
def headZ (f : Nat → Nat) (i : Nat) : Int := (f i : Int)

/-- Behind the head: a = the lengths of the lengths' codes. -/
def lensTail (s : ByteArray) (n : Nat) (a : (Nat → Nat) × St) : List Int × St :=
  if a.2.why ≠ 0 then ([], a.2) else if ks0 (headZ a.1) 19 ≠ 32768 then ([], stopF a.2 1) else lenGo s (codeT (headZ a.1) 19) n (n + 1) [] a.2

def lensF (s : ByteArray) (n many : Nat) (σ : St) : List Int × St := lensTail s n (headGo s many 0 (fun _ => 0) σ)

theorem Fit.lenStep {s : ByteArray} {L : List Int} {k : Int × St} (h : Fit s k.2) : Fit s (lenStep s L k).2.2.2 := by
  have h2 : Fit s (numF s 2 k.2).2 := Fit.num 2 h
  have h3 : Fit s (numF s 3 k.2).2 := Fit.num 3 h
  have h7 : Fit s (numF s 7 k.2).2 := Fit.num 7 h
  unfold Go.Proofs.YtecddphahiadlaaGreatDoor.lenStep
  generalize numF s 2 k.2 = q2 at h2 ⊢
  generalize numF s 3 k.2 = q3 at h3 ⊢
  generalize numF s 7 k.2 = q7 at h7 ⊢
  split
  · exact h
  · split
    · split
      · exact h.stop 1
      · exact h2
    · split
      · exact h3
      · exact h7
theorem lenStep_ge (s : ByteArray) (L : List Int) (k : Int × St) : k.2.pos ≤ (lenStep s L k).2.2.2.pos := by
  have h2 := numF_ge s 2 k.2
  have h3 := numF_ge s 3 k.2
  have h7 := numF_ge s 7 k.2
  unfold lenStep
  generalize numF s 2 k.2 = q2 at h2 ⊢
  generalize numF s 3 k.2 = q3 at h3 ⊢
  generalize numF s 7 k.2 = q7 at h7 ⊢
  split
  · exact Nat.le_refl _
  · split
    · split
      · rw [stopF_pos]; exact Nat.le_refl _
      · exact h2
    · split
      · exact h3
      · exact h7
theorem lenStep_one {s : ByteArray} {L : List Int} {k : Int × St} (h : (lenStep s L k).1 = false) : 1 ≤ (lenStep s L k).2.1 := by
  unfold lenStep at h ⊢
  split
  · exact Nat.le_refl _
  · next h1 =>
    split
    · next h2 =>
      split
      · next h3 => rw [if_neg h1, if_pos h2, if_pos h3] at h; simp at h
      · show 1 ≤ _ + 3; omega
    · split
      · show 1 ≤ _ + 3; omega
      · show 1 ≤ _ + 11; omega
theorem lenStep_most (s : ByteArray) (L : List Int) (k : Int × St) : (lenStep s L k).2.1 ≤ 138 := by
  have n2 := numF_lt s 2 k.2
  have n3 := numF_lt s 3 k.2
  have n7 := numF_lt s 7 k.2
  unfold lenStep
  split
  · show 1 ≤ 138; omega
  · split
    · split
      · show 0 ≤ 138; omega
      · show _ + 3 ≤ 138; omega
    · split
      · show _ + 3 ≤ 138; omega
      · show _ + 11 ≤ 138; omega
theorem lenGo_fit {s : ByteArray} {c : Nat → ByteArray} {n : Nat} : ∀ (f : Nat) (L : List Int) {σ : St}, Fit s σ → Fit s (lenGo s c n f L σ).2
  | 0, _, _, h => h
  | f + 1, L, σ, h => by
    simp only [lenGo]
    split
    · split
      · exact h.symF.lenStep
      · exact lenGo_fit f _ h.symF.lenStep
    · show Fit s (if n < L.length then stopF σ 1 else σ)
      split
      · exact h.stop 1
      · exact h
theorem lenGo_ge {s : ByteArray} {c : Nat → ByteArray} {n : Nat} : ∀ (f : Nat) (L : List Int) (σ : St), σ.pos ≤ (lenGo s c n f L σ).2.pos
  | 0, _, _ => Nat.le_refl _
  | f + 1, L, σ => by
    have h1 : σ.pos ≤ (lenStep s L (symF s c 19 σ)).2.2.2.pos := Nat.le_trans (symF_ge σ) (lenStep_ge _ _ _)
    simp only [lenGo]
    split
    · split
      · exact h1
      · exact Nat.le_trans h1 (lenGo_ge f _ _)
    · show σ.pos ≤ (if n < L.length then stopF σ 1 else σ).pos
      split
      · rw [stopF_pos]; exact Nat.le_refl _
      · exact Nat.le_refl _

theorem bitF_alive {s : ByteArray} {σ : St} (h : (bitF s σ).2.why = 0) : σ.why = 0 := by
  by_cases hy : σ.why = 0
  · exact hy
  · rw [bitF_dead hy] at h; exact h
theorem numF_alive {s : ByteArray} : ∀ (n : Nat) {σ : St}, (numF s n σ).2.why = 0 → σ.why = 0
  | 0, _, h => h
  | n + 1, _, h => bitF_alive (numF_alive n h)

theorem rng_append {L : List Int} {x : Int} {m : Nat} (h : ∀ y ∈ L, 0 ≤ y ∧ y ≤ 15) (hx : 0 ≤ x ∧ x ≤ 15) : ∀ y ∈ L ++ List.replicate m x, 0 ≤ y ∧ y ≤ 15 := by
  intro y hy
  rcases List.mem_append.1 hy with hy | hy
  · exact h y hy
  · rw [List.eq_of_mem_replicate hy]; exact hx

theorem lenStep_alive {s : ByteArray} {L : List Int} {k : Int × St} (h : (lenStep s L k).2.2.2.why = 0) : k.2.why = 0 := by
  have h2 := numF_alive (s := s) 2 (σ := k.2)
  have h3 := numF_alive (s := s) 3 (σ := k.2)
  have h7 := numF_alive (s := s) 7 (σ := k.2)
  unfold lenStep at h
  generalize numF s 2 k.2 = q2 at h2 h
  generalize numF s 3 k.2 = q3 at h3 h
  generalize numF s 7 k.2 = q7 at h7 h
  split at h
  · exact h
  · split at h
    · split at h
      · exact absurd h (stopF_why (by omega))
      · exact h2 h
    · split at h
      · exact h3 h
      · exact h7 h

theorem lenStep_rng {s : ByteArray} {L : List Int} {k : Int × St} (hk : 0 ≤ k.1) (hL : ∀ y ∈ L, 0 ≤ y ∧ y ≤ 15) (h1 : (lenStep s L k).1 = false) : 0 ≤ (lenStep s L k).2.2.1 ∧ (lenStep s L k).2.2.1 ≤ 15 := by
  unfold lenStep at h1 ⊢
  by_cases c1 : k.1 < 16
  · rw [if_pos c1]
    show 0 ≤ k.1 ∧ k.1 ≤ 15
    omega
  · rw [if_neg c1] at h1 ⊢
    by_cases c2 : k.1 = 16
    · rw [if_pos c2] at h1 ⊢
      by_cases c3 : L.length = 0
      · rw [if_pos c3] at h1; simp at h1
      · rw [if_neg c3]
        show 0 ≤ L.getD (L.length - 1) 0 ∧ L.getD (L.length - 1) 0 ≤ 15
        have e : L.getD (L.length - 1) 0 = L[L.length - 1]'(by omega) := by
          rw [List.getD_eq_getElem?_getD, List.getElem?_eq_getElem (by omega)]; rfl
        rw [e]
        exact hL _ (List.getElem_mem _)
    · rw [if_neg c2]
      split
      · show (0 : Int) ≤ 0 ∧ (0 : Int) ≤ 15; omega
      · show (0 : Int) ≤ 0 ∧ (0 : Int) ≤ 15; omega

theorem lenGo_alive {s : ByteArray} {c : Nat → ByteArray} {n : Nat} : ∀ (f : Nat) {L : List Int} {σ : St}, (lenGo s c n f L σ).2.why = 0 → σ.why = 0
  | 0, _, _, h => h
  | f + 1, L, σ, h => by
    simp only [lenGo] at h
    split at h
    · next hc => exact hc.2
    · by_cases hn : n < L.length
      · have h' : (if n < L.length then stopF σ 1 else σ).why = 0 := h
        rw [if_pos hn] at h'
        exact absurd h' (stopF_why (by omega))
      · have h' : (if n < L.length then stopF σ 1 else σ).why = 0 := h
        rw [if_neg hn] at h'
        exact h'

/-- What comes is of 0 to 15, and so many, as long as nothing is wrong. -/
theorem lenGo_rng {s : ByteArray} {c : Nat → ByteArray} {n : Nat} (hc : ∀ i, i < 19 → (c i).size ≤ 15) : ∀ (f : Nat) (L : List Int) (σ : St), n + 1 ≤ L.length + f → (f = 0 → False) → (∀ y ∈ L, 0 ≤ y ∧ y ≤ 15) → (lenGo s c n f L σ).2.why = 0 → (∀ y ∈ (lenGo s c n f L σ).1, 0 ≤ y ∧ y ≤ 15) ∧ (lenGo s c n f L σ).1.length = n
  | 0, _, _, _, h0, _, _ => (h0 rfl).elim
  | f + 1, L, σ, hf, _, hL, hw => by
    have ha : σ.why = 0 := lenGo_alive (f + 1) hw
    simp only [lenGo] at hw ⊢
    by_cases h1 : L.length < n ∧ σ.why = 0
    · rw [if_pos h1] at hw ⊢
      by_cases h2 : (lenStep s L (symF s c 19 σ)).1 = true
      · rw [if_pos h2] at hw
        unfold lenStep at hw h2
        split at h2
        · simp at h2
        · next c1 =>
          split at h2
          · next c2 =>
            split at h2
            · next c3 =>
              rw [if_neg c1, if_pos c2, if_pos c3] at hw
              exact absurd hw (stopF_why (by omega))
            · simp at h2
          · split at h2
            · simp at h2
            · simp at h2
      · rw [if_neg h2] at hw ⊢
        have h3 : (lenStep s L (symF s c 19 σ)).1 = false := by
          cases h : (lenStep s L (symF s c 19 σ)).1
          · rfl
          · exact absurd h h2
        have h4 := lenStep_one h3
        have h5 := lenStep_alive (lenGo_alive f hw)
        obtain ⟨k, hk, hk1⟩ := symF_fst hc σ h5
        have h6 := lenStep_rng (s := s) (L := L) (k := symF s c 19 σ) (by rw [hk1]; omega) hL h3
        refine lenGo_rng hc f _ _ (by rw [List.length_append, List.length_replicate]; omega) (fun e => ?_) (rng_append hL h6) hw
        omega
    · have h2 : ¬ L.length < n := fun h => h1 ⟨h, ha⟩
      rw [if_neg h1] at hw ⊢
      have hw' : (if n < L.length then stopF σ 1 else σ).why = 0 := hw
      by_cases hn : n < L.length
      · rw [if_pos hn] at hw'
        exact absurd hw' (stopF_why (by omega))
      · exact ⟨hL, by show L.length = n; omega⟩

end Go.Proofs.YtecddphahiadlaaGreatDoor

/- The codes of kind 2 by the document: plain reckoning. -/
namespace Go.Proofs.YtecddphahiadlaaGreatDoor
open Go.RowKit

def stop29 (p : Nat × St) : St := if p.2.why = 0 ∧ 29 < p.1 then stopF p.2 1 else p.2

theorem stop29_le {p : Nat × St} (h : (stop29 p).why = 0) : p.1 ≤ 29 ∧ stop29 p = p.2 := by
  unfold stop29 at h ⊢
  by_cases c : p.2.why = 0 ∧ 29 < p.1
  · rw [if_pos c] at h
    exact absurd h (stopF_why (by omega))
  · rw [if_neg c] at h ⊢
    exact ⟨by omega, rfl⟩
theorem Fit.stop29 {s : ByteArray} {p : Nat × St} (h : Fit s p.2) : Fit s (stop29 p) := by
  unfold Go.Proofs.YtecddphahiadlaaGreatDoor.stop29
  split
  · exact h.stop 1
  · exact h

/-- The three numbers at the head of kind 2. -/
structure Head where
  a : Nat
  b : Nat
  c : Nat
  st : St

def headF (s : ByteArray) (σ : St) : Head :=
  ⟨(numF s 5 σ).1, (numF s 5 (stop29 (numF s 5 σ))).1, (numF s 4 (stop29 (numF s 5 (stop29 (numF s 5 σ))))).1, (numF s 4 (stop29 (numF s 5 (stop29 (numF s 5 σ))))).2⟩

def lenZ (L : List Int) (off i : Nat) : Int := L.getD (off + i) 0

def badL (L : List Int) (a b : Nat) : Bool :=
  !(ks0 (lenZ L 0) (a + 257) == 32768) || L.getD 256 0 == 0 ||
    (!(ks0 (lenZ L (a + 257)) (b + 1) == 32768) && decide (0 < usedN (lenZ L (a + 257)) (b + 1)) && !(usedN (lenZ L (a + 257)) (b + 1) == 1 && ks0 (lenZ L (a + 257)) (b + 1) == 16384))

/-- Behind the lengths. -/
def ownEnd (p : List Int × St) (a b : Nat) : St := if p.2.why = 0 ∧ badL p.1 a b = true then stopF p.2 1 else p.2

/-- The lengths, and how far the stream is. -/
def ownF (s : ByteArray) (σ : St) : List Int × St :=
  if (headF s σ).st.why ≠ 0 then ([], (headF s σ).st)
  else ((lensF s ((headF s σ).a + (headF s σ).b + 258) ((headF s σ).c + 4) (headF s σ).st).1, ownEnd (lensF s ((headF s σ).a + (headF s σ).b + 258) ((headF s σ).c + 4) (headF s σ).st) (headF s σ).a (headF s σ).b)

theorem usedN_zero {z : Nat → Int} : ∀ {n : Nat}, usedN z n = 0 → ks0 z n = 0 := by
  intro n
  induction n with
  | zero => intro _; rfl
  | succ n ih =>
    intro h
    simp only [usedN] at h
    simp only [ks0]
    by_cases c : 0 < z n
    · rw [if_pos c] at h; omega
    · rw [if_neg c] at h ⊢
      rw [ih (by omega)]

theorem badL_not {L : List Int} {a b : Nat} (h : badL L a b = false) : ks0 (lenZ L 0) (a + 257) = 32768 ∧ L.getD 256 0 ≠ 0 ∧ ks0 (lenZ L (a + 257)) (b + 1) ≤ 32768 := by
  unfold badL at h
  have hz := usedN_zero (z := lenZ L (a + 257)) (n := b + 1)
  generalize ks0 (lenZ L 0) (a + 257) = m at h ⊢
  generalize ks0 (lenZ L (a + 257)) (b + 1) = n at h hz ⊢
  generalize usedN (lenZ L (a + 257)) (b + 1) = k at h hz
  generalize L.getD 256 0 = x at h ⊢
  simp only [Bool.or_eq_false_iff, Bool.and_eq_false_iff, Bool.not_eq_eq_eq_not, Bool.not_false, beq_iff_eq, beq_eq_false_iff_ne, decide_eq_false_iff_not, Bool.and_eq_true] at h
  obtain ⟨⟨h1, h2⟩, h3⟩ := h
  refine ⟨h1, h2, ?_⟩
  rcases h3 with (h3 | h3) | h3
  · omega
  · have := hz (by omega); omega
  · omega

end Go.Proofs.YtecddphahiadlaaGreatDoor

/- A stream by the document: plain reckoning. -/
namespace Go.Proofs.YtecddphahiadlaaGreatDoor
open Go.RowKit

def ownBlk (s : ByteArray) (σ : St) : St :=
  codedF s (codeT (lenZ (ownF s σ).1 0) ((headF s σ).a + 257)) ((headF s σ).a + 257) (codeT (lenZ (ownF s σ).1 ((headF s σ).a + 257)) ((headF s σ).b + 1)) ((headF s σ).b + 1) (ownF s σ).2

/-- A block behind its head. -/
def blockF (s : ByteArray) (kind : Nat) (σ : St) : St :=
  if kind = 0 then plainF s σ else if kind = 1 then codedF s (codeT fixZ 288) 288 (codeT fivZ 32) 32 σ else if kind = 2 then ownBlk s σ else stopF σ 1

/-- One block: is it no more, and how far the stream is. -/
def runStep (s : ByteArray) (σ : St) : Bool × St :=
  if (numF s 2 (bitF s σ).2).2.why ≠ 0 then (true, (numF s 2 (bitF s σ).2).2)
  else (false, { blockF s (numF s 2 (bitF s σ).2).1 (numF s 2 (bitF s σ).2).2 with fin := decide ((blockF s (numF s 2 (bitF s σ).2).1 (numF s 2 (bitF s σ).2).2).why = 0 ∧ (bitF s σ).1 = 1) })

def runGo (s : ByteArray) : Nat → St → St
  | 0, σ => σ
  | f + 1, σ => if σ.why = 0 ∧ σ.fin = false then (if (runStep s σ).1 = true then (runStep s σ).2 else runGo s f (runStep s σ).2) else σ

def start : St := ⟨0, [], 0, false⟩
def runF (s : ByteArray) : St := runGo s (8 * s.size + 1) start

theorem bytesF_ge (s : ByteArray) : ∀ (k : Nat) (σ : St), σ.pos ≤ (bytesF s k σ).pos
  | 0, _ => Nat.le_refl _
  | k + 1, σ => by
    have h := numF_ge s 8 σ
    simp only [bytesF]
    split
    · refine Nat.le_trans h ?_
      have := bytesF_ge s k (putF (numF s 8 σ).2 (UInt8.ofNat (numF s 8 σ).1))
      rw [putF_pos] at this
      exact this
    · exact Nat.le_refl _
theorem bytesF_fit {s : ByteArray} : ∀ (k : Nat) {σ : St}, Fit s σ → Fit s (bytesF s k σ)
  | 0, _, h => h
  | k + 1, σ, h => by
    simp only [bytesF]
    split
    · exact bytesF_fit k ((h.num 8).put _)
    · exact h
theorem plainHead_fit {s : ByteArray} {σ : St} (h : Fit s σ) : Fit s (plainHead s σ).2 := by
  have h1 : Fit s (numF s 16 (alignF σ)).2 := Fit.num 16 h.align
  unfold plainHead
  generalize numF s 16 (alignF σ) = A at h1 ⊢
  have h2 : Fit s (numF s 16 A.2).2 := Fit.num 16 h1
  generalize hC : numF s 16 A.2 = C at h2
  simp only [hC]
  split
  · exact h2.stop 1
  · exact h2
theorem plainHead_ge (s : ByteArray) (σ : St) : σ.pos ≤ (plainHead s σ).2.pos := by
  have h0 : σ.pos ≤ (alignF σ).pos := by show σ.pos ≤ (σ.pos + 7) / 8 * 8; omega
  have h1 := Nat.le_trans h0 (numF_ge s 16 (alignF σ))
  unfold plainHead
  generalize numF s 16 (alignF σ) = A at h1 ⊢
  have h2 := Nat.le_trans h1 (numF_ge s 16 A.2)
  generalize hC : numF s 16 A.2 = C at h2
  simp only [hC]
  split
  · rw [stopF_pos]; exact h2
  · exact h2

theorem stop29_pos (p : Nat × St) : (stop29 p).pos = p.2.pos := by
  unfold stop29
  split
  · exact stopF_pos _ _
  · rfl
theorem headF_fit {s : ByteArray} {σ : St} (h : Fit s σ) : Fit s (headF s σ).st := by
  have h1 : Fit s (numF s 5 σ).2 := Fit.num 5 h
  unfold headF
  generalize numF s 5 σ = A at h1 ⊢
  have h2 : Fit s (numF s 5 (stop29 A)).2 := Fit.num 5 h1.stop29
  generalize numF s 5 (stop29 A) = C at h2 ⊢
  have h3 : Fit s (numF s 4 (stop29 C)).2 := Fit.num 4 h2.stop29
  generalize numF s 4 (stop29 C) = D at h3 ⊢
  exact h3
theorem headF_ge (s : ByteArray) (σ : St) : σ.pos ≤ (headF s σ).st.pos := by
  have h1 := numF_ge s 5 σ
  unfold headF
  generalize numF s 5 σ = A at h1 ⊢
  have h2 := numF_ge s 5 (stop29 A)
  rw [stop29_pos] at h2
  generalize numF s 5 (stop29 A) = C at h2 ⊢
  have h3 := numF_ge s 4 (stop29 C)
  rw [stop29_pos] at h3
  generalize numF s 4 (stop29 C) = D at h3 ⊢
  show σ.pos ≤ D.2.pos
  omega
theorem lensF_fit {s : ByteArray} {n many : Nat} {σ : St} (h : Fit s σ) : Fit s (lensF s n many σ).2 := by
  have h1 := headGo_fit (s := s) many 0 (fun _ => 0) h
  unfold lensF
  generalize headGo s many 0 (fun _ => 0) σ = a at h1 ⊢
  unfold lensTail
  split
  · exact h1
  · split
    · exact h1.stop 1
    · exact lenGo_fit _ _ h1
theorem lensF_ge (s : ByteArray) (n many : Nat) (σ : St) : σ.pos ≤ (lensF s n many σ).2.pos := by
  have h1 := headGo_ge (s := s) many 0 (fun _ => 0) σ
  unfold lensF
  generalize headGo s many 0 (fun _ => 0) σ = a at h1 ⊢
  unfold lensTail
  split
  · exact h1
  · split
    · show σ.pos ≤ (stopF a.2 1).pos
      rw [stopF_pos]; exact h1
    · exact Nat.le_trans h1 (lenGo_ge _ _ _)
theorem ownEnd_pos (p : List Int × St) (a b : Nat) : (ownEnd p a b).pos = p.2.pos := by
  unfold ownEnd
  split
  · exact stopF_pos _ _
  · rfl
theorem ownF_fit {s : ByteArray} {σ : St} (h : Fit s σ) : Fit s (ownF s σ).2 := by
  have h1 := headF_fit (s := s) h
  unfold ownF
  generalize headF s σ = hd at h1 ⊢
  split
  · exact h1
  · have h2 := lensF_fit (s := s) (n := hd.a + hd.b + 258) (many := hd.c + 4) h1
    show Fit s (ownEnd _ _ _)
    unfold ownEnd
    split
    · exact h2.stop 1
    · exact h2
theorem ownF_ge (s : ByteArray) (σ : St) : σ.pos ≤ (ownF s σ).2.pos := by
  have h1 := headF_ge s σ
  unfold ownF
  generalize headF s σ = hd at h1 ⊢
  split
  · exact h1
  · have h2 := lensF_ge s (hd.a + hd.b + 258) (hd.c + 4) hd.st
    show σ.pos ≤ (ownEnd _ _ _).pos
    rw [ownEnd_pos]
    exact Nat.le_trans h1 h2

theorem blockF_fit {s : ByteArray} {kind : Nat} {σ : St} (h : Fit s σ) : Fit s (blockF s kind σ) := by
  unfold blockF
  split
  · exact bytesF_fit _ (plainHead_fit h)
  · split
    · exact codedGo_fit _ h
    · split
      · exact codedGo_fit _ (ownF_fit h)
      · exact h.stop 1
theorem blockF_ge (s : ByteArray) (kind : Nat) (σ : St) : σ.pos ≤ (blockF s kind σ).pos := by
  unfold blockF
  split
  · exact Nat.le_trans (plainHead_ge s σ) (bytesF_ge _ _ _)
  · split
    · exact codedGo_ge _ _
    · split
      · exact Nat.le_trans (ownF_ge s σ) (codedGo_ge _ _)
      · rw [stopF_pos]; exact Nat.le_refl _

theorem runStep_fit {s : ByteArray} {σ : St} (h : Fit s σ) : Fit s (runStep s σ).2 := by
  have h1 : Fit s (numF s 2 (bitF s σ).2).2 := Fit.num 2 h.bit
  unfold runStep
  generalize numF s 2 (bitF s σ).2 = q at h1 ⊢
  split
  · exact h1
  · have h2 := blockF_fit (s := s) (kind := q.1) h1
    exact ⟨h2.pos, h2.text⟩
theorem runStep_rest {s : ByteArray} {σ : St} (h : Fit s σ) (hy : σ.why = 0) (h1 : (runStep s σ).1 = false) : restN s (runStep s σ).2 < restN s σ := by
  have hp := (runStep_fit (s := s) h).pos
  have hk := numF_alive (s := s) 2 (σ := (bitF s σ).2)
  have hg := numF_ge s 2 (bitF s σ).2
  have hm := bitF_more (s := s) (σ := σ)
  have h0 := h.pos
  unfold runStep at h1 hp ⊢
  generalize numF s 2 (bitF s σ).2 = q at h1 hp hk hg ⊢
  by_cases c : q.2.why ≠ 0
  · rw [if_pos c] at h1; simp at h1
  · rw [if_neg c] at hp ⊢
    have c0 : q.2.why = 0 := by omega
    have h2 := hm (hk c0)
    have h3 := blockF_ge s q.1 q.2
    have hp' : (blockF s q.1 q.2).pos ≤ 8 * s.size := hp
    unfold restN
    rw [if_pos hy]
    show 8 * s.size - (blockF s q.1 q.2).pos + _ < _
    split <;> omega

theorem runGo_fit {s : ByteArray} : ∀ (f : Nat) {σ : St}, Fit s σ → Fit s (runGo s f σ)
  | 0, _, h => h
  | f + 1, σ, h => by
    simp only [runGo]
    split
    · split
      · exact runStep_fit h
      · exact runGo_fit f (runStep_fit h)
    · exact h
theorem runF_fit (s : ByteArray) : Fit s (runF s) := runGo_fit _ ⟨Nat.zero_le _, by show 0 ≤ 5000; omega⟩

end Go.Proofs.YtecddphahiadlaaGreatDoor
