/- Lengths that fit, or few: plain facts; plans in memory. -/
import Derived.Test.YtnfghnolklhppaaDoorGAgainW
import Derived.Test.YtnfghnolklhppaaDoorGCat
import Derived.Test.YtnfghnolklhppaaDoorOwnF
import Derived.Deep.MidRow
namespace Go.Proofs.YtnfghnolklhppaaDoor
open Go.RowKit

theorem fit_tidy {z : Nat → Int} {n : Nat} (h : fitB z n = true) : Tidy z n := by
  simp only [fitB, Bool.and_eq_true, decide_eq_true_eq] at h
  refine ⟨((okB_iff z n).1 h.1).2, by omega, fun L x hL hx _ _ => ?_⟩
  have e : (32768 : Nat) = 2 ^ L * 2 ^ (15 - L) := by rw [← Nat.pow_add, show L + (15 - L) = 15 from by omega]
  rw [h.2, e]
  exact Nat.mul_lt_mul_of_pos_right hx (Nat.two_pow_pos _)

theorem pas_few {c : Nat → Nat} (h : ∀ l, l < 14 → c (l + 2) = 0) : ∀ L, 1 ≤ L → L ≤ 15 → pas c L = c 1 ∧ kr c L = c 1 * 16384
  | 0, h1, _ => by omega
  | 1, _, _ => by simp [pas, kr]
  | L + 2, _, h2 => by
    obtain ⟨a, b⟩ := pas_few h (L + 1) (by omega) (by omega)
    have e := h L (by omega)
    rw [pas_succ, kr_succ, a, b, e]
    simp

theorem few_tidy {z : Nat → Int} {n : Nat} (ho : okB z n = true) (h : fewB (cntN z n) = true) : Tidy z n := by
  obtain ⟨h1, h2⟩ := (fewB_iff _).1 h
  obtain ⟨p15, k15⟩ := pas_few h1 15 (by omega) (by omega)
  refine ⟨((okB_iff z n).1 ho).2, by omega, fun L x hL hx _ hp => ?_⟩
  by_cases e : L = 0
  · subst e
    have : x = 0 := by simp at hx; omega
    subst this
    have e0 : pas (cntN z n) 0 = 0 := rfl
    rw [e0, p15] at hp
    rw [k15, Nat.zero_mul]
    omega
  · obtain ⟨pL, _⟩ := pas_few h1 L (by omega) hL
    rw [pL, p15] at hp
    omega

theorem spa_tidy {z : Nat → Int} {n : Nat} (h : spaB z n = true) : Tidy z n := by
  simp only [spaB, Bool.and_eq_true, Bool.or_eq_true, decide_eq_true_eq] at h
  rcases h.2 with h2 | h2
  · exact fit_tidy (by simp only [fitB, Bool.and_eq_true, decide_eq_true_eq]; exact ⟨h.1, h2⟩)
  · exact few_tidy h.1 h2

theorem used_pas (z : Nat → Int) (n : Nat) (h : ∀ i, i < n → 0 ≤ z i ∧ z i ≤ 15) : usedN z n = pas (cntN z n) 15 := by
  have e : ∀ m, usedN z m + cntN z m 0 = m ∨ ∃ i, i < m ∧ z i < 0 := by
    intro m
    induction m with
    | zero => exact Or.inl rfl
    | succ m ih =>
      rcases ih with ih | ⟨i, hi, hz⟩
      · by_cases hz : z m < 0
        · exact Or.inr ⟨m, by omega, hz⟩
        · left
          simp only [usedN, cntN]
          by_cases h0 : 0 < z m
          · rw [if_pos h0, if_neg (by omega)]; omega
          · rw [if_neg h0, if_pos (by omega)]; omega
      · exact Or.inr ⟨i, by omega, hz⟩
  have h2 := pas_all z n h
  rcases e n with e | ⟨i, hi, hz⟩
  · omega
  · have := h i hi; omega

theorem kr_few_le (c : Nat → Nat) : ∀ m, kr c (m + 1) ≤ c 1 * 16384 + (pas c (m + 1) - c 1) * 8192 ∧ c 1 ≤ pas c (m + 1)
  | 0 => by simp [kr, pas]
  | m + 1 => by
    obtain ⟨a, b⟩ := kr_few_le c m
    have hp : 2 ^ (15 - (m + 1 + 1)) ≤ 2 ^ 13 := Nat.pow_le_pow_right (by omega) (by omega)
    have h13 : (2 : Nat) ^ 13 = 8192 := rfl
    have hm := Nat.mul_le_mul_left (c (m + 1 + 1)) hp
    rw [kr_succ, pas_succ]
    refine ⟨?_, by omega⟩
    have e : pas c (m + 1) + c (m + 1 + 1) - c 1 = (pas c (m + 1) - c 1) + c (m + 1 + 1) := by omega
    rw [e, Nat.add_mul]
    omega

/-- Few, as the document asks it. -/
theorem few_iff {z : Nat → Int} {n : Nat} (hr : ∀ i, i < n → 0 ≤ z i ∧ z i ≤ 15) : fewB (cntN z n) = true ↔ (usedN z n = 0 ∨ (usedN z n = 1 ∧ ks0 z n = 16384)) := by
  rw [fewB_iff, used_pas z n hr, ← kr_ks0 z n hr]
  refine ⟨fun ⟨h1, h2⟩ => ?_, fun h => ?_⟩
  · obtain ⟨p15, k15⟩ := pas_few h1 15 (by omega) (by omega)
    rw [p15, k15]
    omega
  · obtain ⟨a, b⟩ := kr_few_le (cntN z n) 14
    have hz : ∀ l, l < 14 → cntN z n 1 + cntN z n (l + 2) ≤ pas (cntN z n) 15 := by
      intro l hl
      have h1 := pas_mono (cntN z n) (show l + 2 ≤ 15 by omega)
      have h2 := pas_mono (cntN z n) (show 1 ≤ l + 1 by omega)
      have h3 : pas (cntN z n) (l + 2) = pas (cntN z n) (l + 1) + cntN z n (l + 2) := pas_succ (cntN z n) (l + 1)
      have h4 : pas (cntN z n) 1 = cntN z n 1 := by simp [pas]
      rw [h4] at h2
      rw [h3] at h1
      exact Nat.le_trans (Nat.add_le_add_right h2 _) h1
    have a' : kr (cntN z n) 15 ≤ cntN z n 1 * 16384 + (pas (cntN z n) 15 - cntN z n 1) * 8192 := a
    have b' : cntN z n 1 ≤ pas (cntN z n) 15 := b
    clear a b
    generalize pas (cntN z n) 15 = p at hz a' b' h
    generalize kr (cntN z n) 15 = kk at a' h
    rcases h with h | ⟨h, h2⟩
    · exact ⟨fun l hl => by have := hz l hl; omega, by omega⟩
    · have h1 : cntN z n 1 = 1 := by omega
      exact ⟨fun l hl => by have := hz l hl; omega, by omega⟩

theorem spaB_iff {z : Nat → Int} {n : Nat} (hn : n ≤ 288) (hr : ∀ i, i < n → 0 ≤ z i ∧ z i ≤ 15) : spaB z n = true ↔ (ks0 z n = 32768 ∨ usedN z n = 0 ∨ (usedN z n = 1 ∧ ks0 z n = 16384)) := by
  unfold spaB
  rw [okB_yes hn hr, Bool.true_and, Bool.or_eq_true, decide_eq_true_iff, few_iff hr, kr_ks0 z n hr]
theorem fitB_iff {z : Nat → Int} {n : Nat} (hn : n ≤ 288) (hr : ∀ i, i < n → 0 ≤ z i ∧ z i ≤ 15) : fitB z n = true ↔ ks0 z n = 32768 := by
  rw [fitB_of_ok (okB_yes hn hr) hr, decide_eq_true_iff]

theorem badL_iff {L : List Int} {a b : Nat} (ha : a + 257 ≤ 288) (hb : b + 1 ≤ 288) (h1 : ∀ i, i < a + 257 → 0 ≤ lenZ L 0 i ∧ lenZ L 0 i ≤ 15) (h2 : ∀ i, i < b + 1 → 0 ≤ lenZ L (a + 257) i ∧ lenZ L (a + 257) i ≤ 15) :
    badL L a b = false ↔ (fitB (lenZ L 0) (a + 257) = true ∧ L.getD 256 0 ≠ 0 ∧ spaB (lenZ L (a + 257)) (b + 1) = true) := by
  rw [fitB_iff ha h1, spaB_iff hb h2]
  unfold badL
  generalize ks0 (lenZ L 0) (a + 257) = m
  generalize ks0 (lenZ L (a + 257)) (b + 1) = n
  generalize usedN (lenZ L (a + 257)) (b + 1) = k
  generalize L.getD 256 0 = x
  simp only [Bool.or_eq_false_iff, Bool.and_eq_false_iff, Bool.not_eq_eq_eq_not, Bool.not_false, beq_iff_eq, beq_eq_false_iff_ne, decide_eq_false_iff_not, Bool.and_eq_true]
  refine ⟨fun ⟨⟨q1, q2⟩, q3⟩ => ⟨q1, q2, ?_⟩, fun ⟨q1, q2, q3⟩ => ⟨⟨q1, q2⟩, ?_⟩⟩
  · rcases q3 with (q3 | q3) | q3
    · exact Or.inl q3
    · exact Or.inr (Or.inl (by omega))
    · exact Or.inr (Or.inr q3)
  · rcases q3 with q3 | q3 | q3
    · exact Or.inl (Or.inl q3)
    · exact Or.inl (Or.inr (by omega))
    · exact Or.inr q3

/-- The table of the order, in memory. -/
structure OrdIn (w : World) (go : Nat) : Prop where
  cell : ∀ i, i < 19 → w.cell? ⟨go, i, none⟩ = some (.int .i64 (ordN i : Nat))
  lt : go < w.heap.size

theorem OrdIn.kp {w w' : World} {go gx : Nat} {vt : Value} (h : OrdIn w go) (k : Kp w w' gx vt) (hx : go ≠ gx) (hv : vt.ownBlock ≠ some go) : OrdIn w' go :=
  ⟨fun i hi => by
    have e := k.block go h.lt hx hv
    have c := h.cell i hi
    simp only [World.cell?] at c ⊢
    rw [e]; exact c, Nat.lt_of_lt_of_le h.lt k.size⟩

end Go.Proofs.YtnfghnolklhppaaDoor
