/- The program's again: a length and a distance. -/
import Derived.Test.YtnfghnolklhppaaDoorGMeas
import Derived.Test.YtnfghnolklhppaaDoorPair
namespace Go.Proofs.YtnfghnolklhppaaDoor
open Go.RowKit

theorem symF_dead {s : ByteArray} {z : Nat → Int} {n : Nat} {σ : St} (h : σ.why ≠ 0) : symF s (codeT z n) n σ = (-1, σ) := by
  have hn : hitF (codeT z n) .empty n 0 = none := hitF_none_all n 0 (fun i _ _ => hit_empty _)
  have hs : stopF σ 1 = σ := by unfold stopF; rw [if_neg h]
  unfold symF
  simp only [symGo, hn]
  rw [bitF_dead h, if_neg h, hs]
  split <;> rfl

theorem pairEnd_dead {n back : Nat} {σ : St} (h : σ.why ≠ 0) : pairEnd n back σ = σ := by unfold pairEnd; rw [if_pos h]

/-- Behind a symbol above 256. -/
def againF (s : ByteArray) (z : Nat → Int) (n y : Nat) (σ : St) : St := if 285 < y ∨ pas (cntN z n) 15 = 0 then { σ with why := 1 } else pairF s (codeT z n) n y σ

theorem againF_bad {s : ByteArray} {z : Nat → Int} {n y : Nat} {σ : St} (h : 285 < y ∨ pas (cntN z n) 15 = 0) : againF s z n y σ = { σ with why := 1 } := by unfold againF; rw [if_pos h]
theorem againF_ok {s : ByteArray} {z : Nat → Int} {n y : Nat} {σ : St} (h : ¬ (285 < y ∨ pas (cntN z n) 15 = 0)) : againF s z n y σ = pairEnd (pairN y + (numF s (pairM y) σ).1) (distP s (symF s (codeT z n) n (numF s (pairM y) σ).2)).1 (distP s (symF s (codeT z n) n (numF s (pairM y) σ).2)).2 := by
  unfold againF; rw [if_neg h]; unfold pairF; rw [pairDist_eq]

/-- Behind the length: the rest as a function of what was read. -/
def againMid (s : ByteArray) (z : Nat → Int) (n N : Nat) (q : Nat × St) : St := pairEnd (N + q.1) (distP s (symF s (codeT z n) n q.2)).1 (distP s (symF s (codeT z n) n q.2)).2
theorem againF_mid {s : ByteArray} {z : Nat → Int} {n y : Nat} {σ : St} (h : ¬ (285 < y ∨ pas (cntN z n) 15 = 0)) : againF s z n y σ = againMid s z n (pairN y) (numF s (pairM y) σ) := by
  rw [againF_ok h]; rfl
theorem againMid_dead {s : ByteArray} {z : Nat → Int} {n N : Nat} {q : Nat × St} (h : q.2.why ≠ 0) : againMid s z n N q = q.2 := by
  unfold againMid
  rw [symF_dead h, distP_bad (k := (-1, q.2)) h]
  exact pairEnd_dead h
theorem againMid_eq (s : ByteArray) (z : Nat → Int) (n N a : Nat) (σ : St) : againMid s z n N (a, σ) = pairEnd (N + a) (distP s (symF s (codeT z n) n σ)).1 (distP s (symF s (codeT z n) n σ)).2 := rfl

/-- The state of the loop over the bytes: k are still to come. -/
structure GCR (B : Nat) (w wr : World) (gx : Nat) (s : ByteArray) (vt fx : Value) (back k : Nat) (σ goal : St) : Prop where
  runs : RunsG B w wr gx s vt fx σ
  why : σ.why = 0
  one : 1 ≤ back
  far : back ≤ σ.text.length
  room : σ.text.length + k ≤ 5000
  eq : { σ with text := copyF back k σ.text } = goal

theorem GCR.zero {B : Nat} {w wr : World} {gx : Nat} {s : ByteArray} {vt fx : Value} {back : Nat} {σ goal : St} (h : GCR B w wr gx s vt fx back 0 σ goal) : goal.why = 0 ∧ RunsG B w wr gx s vt fx goal := by
  rw [← h.eq]; exact ⟨h.why, h.runs⟩

theorem gcr_step {B : Nat} {w wr w4 : World} {gx : Nat} {s : ByteArray} {vt vt' fx : Value} {back k : Nat} {σ goal : St} (h : GCR B w wr gx s vt fx back (k + 1) σ goal) (hkp : Kp w wr gx vt)
    (hfr : ∀ g, vt'.ownBlock = some g → vt.ownBlock = some g ∨ w.heap.size ≤ g) (h4 : RunsG B wr w4 gx s vt' fx { σ with text := σ.text ++ [σ.text.getD (σ.text.length - back) 0] }) :
    GCR B w w4 gx s vt fx back k { σ with text := σ.text ++ [σ.text.getD (σ.text.length - back) 0] } goal := by
  have hf := h.far
  have hr := h.room
  refine ⟨RunsG.trans hkp hfr h4, h.why, h.one, ?_, ?_, ?_⟩
  · show back ≤ (σ.text ++ _).length; rw [List.length_append]; omega
  · show (σ.text ++ _).length + k ≤ 5000; rw [List.length_append]; simp; omega
  · rw [← h.eq]; rfl

theorem rd_text1 {B : Nat} {w : World} {gx : Nat} {s : ByteArray} {σ : St} {vt fx : Value} (h : Rd B w gx s σ vt fx) (h1 : 1 ≤ σ.text.length) : ∃ g cap, vt = .slice (some ⟨g, 0, none⟩) σ.text.length cap := by
  obtain ⟨_, q⟩ := h.own
  rcases q with ⟨q, q0⟩ | ⟨g, cap, cur, q, _⟩
  · omega
  · exact ⟨_, _, q⟩

theorem again_more {B : Nat} {w w2 : World} {gx : Nat} {s : ByteArray} {σ : St} {vt fx : Value} {o : Obj} {c : UInt8} {g cp T g' cap' : Nat} (h : Rd B w gx s σ vt fx) (hvt : vt = .slice (some ⟨g, 0, none⟩) σ.text.length cp) (hT : T = σ.text.length)
    (ho : w2.ownsRow B 5 1 (.slice (some ⟨g', 0, none⟩) (T + 1) cap') (T + 1) (byteVals σ.text ++ [.int .u8 (c.toNat : Int)])) (hd : w.heap.size + 1 ≤ g' ∨ Value.ownBlock (.slice (some ⟨g, 0, none⟩) T cp) = some g') (hg : (w.alloc o).drew.grownBy w2 (some g')) :
    w2.cell? ⟨gx, 3, none⟩ = some vt ∧ w2.frozen? ⟨gx, 3, none⟩ = false ∧ RunsG B w (w2.setCell ⟨gx, 3, none⟩ (.slice (some ⟨g', 0, none⟩) (T + 1) cap')) gx s vt fx { σ with text := σ.text ++ [c] } := by
  subst hT
  have hd' : w.heap.size + 1 ≤ g' ∨ vt.ownBlock = some g' := by rw [hvt]; exact hd
  exact rd_more h ho hd' (o := o) ⟨hg.os, hg.tape, hg.output, hg.size, hg.block⟩

theorem pairEnd_far {n back : Nat} {σ : St} (h : σ.why = 0) (hf : σ.text.length < back) : pairEnd n back σ = { σ with why := 1 } := by
  unfold pairEnd; rw [if_neg (by omega), if_pos hf]; unfold stopF; rw [if_pos h]
theorem pairEnd_long {n back : Nat} {σ : St} (h : σ.why = 0) (hf : ¬ σ.text.length < back) (hl : 5000 < σ.text.length + n) : pairEnd n back σ = { σ with why := 3 } := by
  unfold pairEnd; rw [if_neg (by omega), if_neg hf, if_pos hl]; unfold stopF; rw [if_pos h]
theorem pairEnd_copy {n back : Nat} {σ : St} (h : σ.why = 0) (hf : ¬ σ.text.length < back) (hl : ¬ 5000 < σ.text.length + n) : pairEnd n back σ = { σ with text := copyF back n σ.text } := by
  unfold pairEnd; rw [if_neg (by omega), if_neg hf, if_neg hl]

theorem distP_bd {s : ByteArray} {k : Int × St} (h : (distP s k).2.why = 0) (hk : ∃ k' : Nat, k.1 = (k' : Int)) : 1 ≤ (distP s k).1 ∧ (distP s k).1 ≤ 200000 := by
  obtain ⟨k0, σ⟩ := k
  obtain ⟨k', hk'⟩ := hk
  simp only at hk'
  subst hk'
  by_cases h0 : σ.why = 0
  · by_cases h29 : k' < 30
    · rw [distP_ok h0 h29]
      obtain ⟨t1, t2⟩ := tellD_le h29
      have n1 := numF_lt s (addD k') σ
      have n2 : 2 ^ addD k' ≤ 2 ^ 13 := Nat.pow_le_pow_right (by omega) t2
      have n3 : (2 : Nat) ^ 13 = 8192 := rfl
      show 1 ≤ 1 + tellD k' + (numF s (addD k') σ).1 ∧ 1 + tellD k' + (numF s (addD k') σ).1 ≤ 200000
      omega
    · rw [distP_wrong (k := ((k' : Int), σ)) h0 (by show (29 : Int) < (k' : Int); omega)] at h
      exact absurd h (by show ¬ (1 : Nat) = 0; omega)
  · rw [distP_bad (k := ((k' : Int), σ)) h0] at h
    exact absurd h h0

theorem Fit.distP {s : ByteArray} {k : Int × St} (h : Fit s k.2) : Fit s (distP s k).2 := by
  unfold Go.Proofs.YtnfghnolklhppaaDoor.distP
  split
  · show Fit s (distSt k)
    unfold distSt
    split
    · exact h.stop 1
    · exact h
  · exact Fit.num _ h

theorem distP_fst {s : ByteArray} {z : Nat → Int} {n : Nat} (ht : Tidy z n) (σ : St) (h : (distP s (symF s (codeT z n) n σ)).2.why = 0) : ∃ k' : Nat, (symF s (codeT z n) n σ).1 = (k' : Int) := by
  by_cases h0 : (symF s (codeT z n) n σ).2.why = 0
  · obtain ⟨k, _, hk⟩ := symF_fst (codeT_size ht) σ h0
    exact ⟨k, hk⟩
  · rw [distP_bad h0] at h
    exact absurd h h0

end Go.Proofs.YtnfghnolklhppaaDoor
