/- Why a stream is no stream: one of three. -/
import Derived.Test.YtecddphahiadlaaGreatDoorCRunF
namespace Go.Proofs.YtecddphahiadlaaGreatDoor
open Go.RowKit

/-- The reason is none, or one of the document's three. -/
structure Wy (σ : St) : Prop where
  le : σ.why ≤ 3

theorem Wy.bit {s : ByteArray} {σ : St} (h : Wy σ) : Wy (bitF s σ).2 := by
  unfold bitF
  split
  · exact h
  · split
    · exact ⟨by show 2 ≤ 3; omega⟩
    · exact ⟨h.le⟩
theorem Wy.num {s : ByteArray} : ∀ (n : Nat) {σ : St}, Wy σ → Wy (numF s n σ).2
  | 0, _, h => h
  | n + 1, _, h => Wy.num n h.bit
theorem Wy.stop {σ : St} (h : Wy σ) (y : Nat) (hy : y ≤ 3 := by decide) : Wy (stopF σ y) := by
  unfold stopF
  split
  · exact ⟨hy⟩
  · exact h
theorem Wy.put {σ : St} (h : Wy σ) (c : UInt8) : Wy (putF σ c) := by
  unfold putF
  split
  · exact h
  · split
    · exact ⟨Nat.le_refl _⟩
    · exact ⟨h.le⟩
theorem Wy.align {σ : St} (h : Wy σ) : Wy (alignF σ) := ⟨h.le⟩
theorem Wy.sym {s : ByteArray} {c : Nat → ByteArray} {n : Nat} : ∀ (f : Nat) (cur : ByteArray) {σ : St}, Wy σ → Wy (symGo s c n f cur σ).2
  | 0, _, _, h => h
  | f + 1, cur, σ, h => by
    simp only [symGo]
    split
    · exact h
    · split
      · split
        · exact Wy.sym f _ h.bit
        · exact h.bit
      · exact h.stop 1

theorem Wy.symF {s : ByteArray} {c : Nat → ByteArray} {n : Nat} {σ : St} (h : Wy σ) : Wy (symF s c n σ).2 := Wy.sym 17 _ h

theorem Wy.pairEnd {n back : Nat} {σ : St} (h : Wy σ) : Wy (pairEnd n back σ) := by
  unfold Go.Proofs.YtecddphahiadlaaGreatDoor.pairEnd
  split
  · exact h
  · split
    · exact h.stop 1
    · split
      · exact h.stop 3
      · exact ⟨h.le⟩

theorem Wy.pairF {s : ByteArray} {c : Nat → ByteArray} {n y : Nat} {σ : St} (h : Wy σ) : Wy (pairF s c n y σ) := by
  have h1 : Wy (Go.Proofs.YtecddphahiadlaaGreatDoor.symF s c n (numF s (pairM y) σ).2).2 := (h.num _).symF
  unfold Go.Proofs.YtecddphahiadlaaGreatDoor.pairF pairDist
  generalize Go.Proofs.YtecddphahiadlaaGreatDoor.symF s c n (numF s (pairM y) σ).2 = k at h1 ⊢
  split
  · unfold distSt
    split
    · exact h1.stop 1
    · exact h1
  · exact (h1.num _).pairEnd

theorem Wy.stepF {s : ByteArray} {c : Nat → ByteArray} {n there : Nat} {k : Int × St} (h : Wy k.2) : Wy (stepF s c n there k).2 := by
  unfold Go.Proofs.YtecddphahiadlaaGreatDoor.stepF
  split
  · exact h
  · split
    · exact h.put _
    · split
      · exact h.stop 1
      · exact h.pairF

theorem codedGo_wy {s : ByteArray} {l : Nat → ByteArray} {nl : Nat} {d : Nat → ByteArray} {nd : Nat} : ∀ (f : Nat) {σ : St}, Wy σ → Wy (codedGo s l nl d nd f σ)
  | 0, _, h => h
  | f + 1, σ, h => by
    simp only [codedGo]
    split
    · exact h
    · split
      · exact h.symF.stepF
      · exact codedGo_wy f h.symF.stepF

theorem headGo_wy {s : ByteArray} : ∀ (r i : Nat) (f : Nat → Nat) {σ : St}, Wy σ → Wy (headGo s r i f σ).2
  | 0, _, _, _, h => h
  | r + 1, i, _, _, h => headGo_wy r (i + 1) _ (h.num 3)

theorem Wy.lenStep {s : ByteArray} {L : List Int} {k : Int × St} (h : Wy k.2) : Wy (lenStep s L k).2.2.2 := by
  have h2 : Wy (numF s 2 k.2).2 := Wy.num 2 h
  have h3 : Wy (numF s 3 k.2).2 := Wy.num 3 h
  have h7 : Wy (numF s 7 k.2).2 := Wy.num 7 h
  unfold Go.Proofs.YtecddphahiadlaaGreatDoor.lenStep
  generalize numF s 2 k.2 = q2 at h2 ⊢
  generalize numF s 3 k.2 = q3 at h3 ⊢
  generalize numF s 7 k.2 = q7 at h7 ⊢
  split
  · exact h
  · split
    · split
      · exact h.stop 1
      · exact h2
    · split
      · exact h3
      · exact h7

theorem lenGo_wy {s : ByteArray} {c : Nat → ByteArray} {n : Nat} : ∀ (f : Nat) (L : List Int) {σ : St}, Wy σ → Wy (lenGo s c n f L σ).2
  | 0, _, _, h => h
  | f + 1, L, σ, h => by
    simp only [lenGo]
    split
    · split
      · exact h.symF.lenStep
      · exact lenGo_wy f _ h.symF.lenStep
    · show Wy (if n < L.length then stopF σ 1 else σ)
      split
      · exact h.stop 1
      · exact h

theorem Wy.stop29 {p : Nat × St} (h : Wy p.2) : Wy (stop29 p) := by
  unfold Go.Proofs.YtecddphahiadlaaGreatDoor.stop29
  split
  · exact h.stop 1
  · exact h

theorem bytesF_wy {s : ByteArray} : ∀ (k : Nat) {σ : St}, Wy σ → Wy (bytesF s k σ)
  | 0, _, h => h
  | k + 1, σ, h => by
    simp only [bytesF]
    split
    · exact bytesF_wy k ((h.num 8).put _)
    · exact h

theorem plainHead_wy {s : ByteArray} {σ : St} (h : Wy σ) : Wy (plainHead s σ).2 := by
  have h1 : Wy (numF s 16 (alignF σ)).2 := Wy.num 16 h.align
  unfold plainHead
  generalize numF s 16 (alignF σ) = A at h1 ⊢
  have h2 : Wy (numF s 16 A.2).2 := Wy.num 16 h1
  generalize hC : numF s 16 A.2 = C at h2
  simp only [hC]
  split
  · exact h2.stop 1
  · exact h2

theorem headF_wy {s : ByteArray} {σ : St} (h : Wy σ) : Wy (headF s σ).st := by
  have h1 : Wy (numF s 5 σ).2 := Wy.num 5 h
  unfold headF
  generalize numF s 5 σ = A at h1 ⊢
  have h2 : Wy (numF s 5 (stop29 A)).2 := Wy.num 5 h1.stop29
  generalize numF s 5 (stop29 A) = C at h2 ⊢
  have h3 : Wy (numF s 4 (stop29 C)).2 := Wy.num 4 h2.stop29
  generalize numF s 4 (stop29 C) = D at h3 ⊢
  exact h3

theorem lensF_wy {s : ByteArray} {n many : Nat} {σ : St} (h : Wy σ) : Wy (lensF s n many σ).2 := by
  have h1 := headGo_wy (s := s) many 0 (fun _ => 0) h
  unfold lensF
  generalize headGo s many 0 (fun _ => 0) σ = a at h1 ⊢
  unfold lensTail
  split
  · exact h1
  · split
    · exact h1.stop 1
    · exact lenGo_wy _ _ h1

theorem ownF_wy {s : ByteArray} {σ : St} (h : Wy σ) : Wy (ownF s σ).2 := by
  have h1 := headF_wy (s := s) h
  unfold ownF
  generalize headF s σ = hd at h1 ⊢
  split
  · exact h1
  · have h2 := lensF_wy (s := s) (n := hd.a + hd.b + 258) (many := hd.c + 4) h1
    show Wy (ownEnd _ _ _)
    unfold ownEnd
    split
    · exact h2.stop 1
    · exact h2

theorem blockF_wy {s : ByteArray} {kind : Nat} {σ : St} (h : Wy σ) : Wy (blockF s kind σ) := by
  unfold blockF
  split
  · exact bytesF_wy _ (plainHead_wy h)
  · split
    · exact codedGo_wy _ h
    · split
      · exact codedGo_wy _ (ownF_wy h)
      · exact h.stop 1

theorem runStep_wy {s : ByteArray} {σ : St} (h : Wy σ) : Wy (runStep s σ).2 := by
  have h1 : Wy (numF s 2 (bitF s σ).2).2 := Wy.num 2 h.bit
  unfold runStep
  generalize numF s 2 (bitF s σ).2 = q at h1 ⊢
  split
  · exact h1
  · have h2 := blockF_wy (s := s) (kind := q.1) h1
    exact ⟨h2.le⟩

theorem runGo_wy {s : ByteArray} : ∀ (f : Nat) {σ : St}, Wy σ → Wy (runGo s f σ)
  | 0, _, h => h
  | f + 1, σ, h => by
    simp only [runGo]
    split
    · split
      · exact runStep_wy h
      · exact runGo_wy f (runStep_wy h)
    · exact h

theorem runF_wy (s : ByteArray) : Wy (runF s) := runGo_wy _ ⟨Nat.zero_le _⟩

end Go.Proofs.YtecddphahiadlaaGreatDoor
