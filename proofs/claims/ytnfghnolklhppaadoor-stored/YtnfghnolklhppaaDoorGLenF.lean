/- The list of lengths: plain facts for the program's lengths. -/
import Derived.Test.YtnfghnolklhppaaDoorGLcW
namespace Go.Proofs.YtnfghnolklhppaaDoor
open Go.RowKit

theorem stopF_alive {σ : St} (h : σ.why = 0) : stopF σ 1 = { σ with why := 1 } := by unfold stopF; rw [if_pos h]
theorem stopF_dead {σ : St} (h : σ.why ≠ 0) (y : Nat) : stopF σ y = σ := by unfold stopF; rw [if_neg h]

theorem lenGo_dead {s : ByteArray} {c : Nat → ByteArray} {n : Nat} {L : List Int} {σ : St} (h : σ.why ≠ 0) (f : Nat) : (lenGo s c n f L σ).2 = σ := by
  cases f with
  | zero => rfl
  | succ f =>
    simp only [lenGo]
    rw [if_neg (fun x => h x.2)]
    show (if n < L.length then stopF σ 1 else σ) = σ
    rw [stopF_dead h]
    split <;> rfl
theorem lenGo_over {s : ByteArray} {c : Nat → ByteArray} {n : Nat} {L : List Int} {σ : St} (h : n < L.length) (f : Nat) : (lenGo s c n (f + 1) L σ).2 = stopF σ 1 := by
  simp only [lenGo]
  rw [if_neg (fun x => by omega)]
  show (if n < L.length then stopF σ 1 else σ) = _
  rw [if_pos h]
theorem lenGo_end {s : ByteArray} {c : Nat → ByteArray} {n : Nat} {L : List Int} {σ : St} (h : L.length = n) (f : Nat) : lenGo s c n (f + 1) L σ = (L, σ) := by
  simp only [lenGo]
  rw [if_neg (fun x => by omega), if_neg (by omega)]
theorem lenGo_next {s : ByteArray} {c : Nat → ByteArray} {n : Nat} {L : List Int} {σ : St} (h : L.length < n) (hy : σ.why = 0) {N : Nat} {v : Int} {σ' : St} (hk : lenStep s L (symF s c 19 σ) = (false, N, v, σ')) (f : Nat) :
    lenGo s c n (f + 1) L σ = lenGo s c n f (L ++ List.replicate N v) σ' := by
  simp only [lenGo]
  rw [if_pos ⟨h, hy⟩, hk, if_neg (by simp)]
theorem lenGo_nothing {s : ByteArray} {c : Nat → ByteArray} {n : Nat} {L : List Int} {σ : St} (h : L.length < n) (hy : σ.why = 0) {σ' : St} (hk : lenStep s L (symF s c 19 σ) = (true, 0, 0, σ')) (f : Nat) :
    lenGo s c n (f + 1) L σ = ([], σ') := by
  simp only [lenGo]
  rw [if_pos ⟨h, hy⟩, hk, if_pos rfl]

theorem lenStep_one' (s : ByteArray) (L : List Int) (k : Int) (σ : St) (h : k < 16) : lenStep s L (k, σ) = (false, 1, k, σ) := by
  unfold lenStep; rw [if_pos h]
theorem lenStep_16n (s : ByteArray) (L : List Int) (σ : St) (h : L.length = 0) : lenStep s L (16, σ) = (true, 0, 0, stopF σ 1) := by
  unfold lenStep; rw [if_neg (by show ¬ (16 : Int) < 16; omega), if_pos rfl, if_pos h]
theorem lenStep_16 (s : ByteArray) (L : List Int) (σ : St) (h : ¬ L.length = 0) : lenStep s L (16, σ) = (false, (numF s 2 σ).1 + 3, L.getD (L.length - 1) 0, (numF s 2 σ).2) := by
  unfold lenStep; rw [if_neg (by show ¬ (16 : Int) < 16; omega), if_pos rfl, if_neg h]
theorem lenStep_17 (s : ByteArray) (L : List Int) (σ : St) : lenStep s L (17, σ) = (false, (numF s 3 σ).1 + 3, 0, (numF s 3 σ).2) := by
  unfold lenStep; rw [if_neg (by show ¬ (17 : Int) < 16; omega), if_neg (by show ¬ (17 : Int) = 16; omega), if_pos rfl]
theorem lenStep_18 (s : ByteArray) (L : List Int) (σ : St) : lenStep s L (18, σ) = (false, (numF s 7 σ).1 + 11, 0, (numF s 7 σ).2) := by
  unfold lenStep; rw [if_neg (by show ¬ (18 : Int) < 16; omega), if_neg (by show ¬ (18 : Int) = 16; omega), if_neg (by show ¬ (18 : Int) = 17; omega)]

theorem symGo_dead_fst {s : ByteArray} {c : Nat → ByteArray} {n : Nat} : ∀ (f : Nat) (cur : ByteArray) (σ : St), σ.why = 0 → (symGo s c n f cur σ).2.why ≠ 0 → (symGo s c n f cur σ).1 = -1
  | 0, _, _, _, _ => rfl
  | f + 1, cur, σ, h0, h => by
    simp only [symGo] at h ⊢
    cases hh : hitF c cur n 0 with
    | some i =>
      rw [hh] at h
      exact absurd h0 h
    | none =>
      simp only [hh] at h ⊢
      by_cases hsb : someB c cur n = true
      · rw [if_pos hsb] at h ⊢
        by_cases hb : (bitF s σ).2.why = 0
        · rw [if_pos hb] at h ⊢
          exact symGo_dead_fst f _ _ hb h
        · rw [if_neg hb]
      · rw [if_neg hsb]

/-- Numbers as values. -/
def intsL (L : List Int) : List Value := L.map fun x => Value.int .i64 x
theorem intsL_length (L : List Int) : (intsL L).length = L.length := by simp [intsL]
theorem intsL_append (L : List Int) (n : Nat) (v : Int) : intsL L ++ List.replicate n (.int .i64 v) = intsL (L ++ List.replicate n v) := by simp [intsL]
theorem intsL_at (L : List Int) (j : Nat) (hj : j < L.length) : (intsL L)[j]? = some (.int .i64 (L.getD j 0)) := by
  unfold intsL
  rw [List.getElem?_map, List.getElem?_eq_getElem hj]
  simp [List.getD_eq_getElem?_getD, List.getElem?_eq_getElem hj]

/-- The state of the loop over the lengths. -/
structure LnR (B : Nat) (w wr : World) (gx : Nat) (s : ByteArray) (vt fx : Value) (z : Nat → Int) (g gs gl many : Nat) (A : Array Value) (sy : Nat → Nat) (f : Nat) (L : List Int) (σ : St) (goal : List Int × St) : Prop where
  rd : Rd B wr gx s σ vt fx
  kp : Kp w wr gx vt
  fit : Fit s σ
  why : σ.why = 0
  set : SetIn wr z 19 g sy
  box : wr.heap[gs]? = some (.cells A 80 (0, 0))
  own : wr.ownsRow w.heap.size 3 1 (.slice (some ⟨gl, 0, none⟩) L.length many) L.length (intsL L)
  few : L.length ≤ many
  fuel : many + 1 ≤ L.length + f
  rng : ∀ y ∈ L, 0 ≤ y ∧ y ≤ 15
  eq : lenGo s (codeT z 19) many f L σ = goal

theorem Rd.grown {B : Nat} {w w' : World} {gx : Nat} {s : ByteArray} {σ : St} {vt fx : Value} (h : Rd B w gx s σ vt fx) {g : Nat} (hg : w.grownBy w' (some g)) (hx : gx ≠ g) (hv : vt.ownBlock ≠ some g) : Rd B w' gx s σ vt fx := by
  refine ⟨h.le, h.row.of_block (hg.block gx h.row.lt (by intro e; exact hx (Option.some.inj e))), ?_, h.ne⟩
  have hl := h.own.lt
  obtain ⟨q1, q2⟩ := h.own
  refine ⟨q1, ?_⟩
  rcases q2 with q2 | ⟨g', cap, cur, hv', hbb, hh, r⟩
  · exact Or.inl q2
  · exact Or.inr ⟨g', cap, cur, hv', hbb, (hg.block g' (hl g' (by rw [hv']; rfl)).2 (by intro e; exact hv (by rw [hv', ← Option.some.inj e]; rfl))).trans hh, r⟩
theorem Kp.grown {w w1 w' : World} {gx : Nat} {vt : Value} (h : Kp w w1 gx vt) {g : Nat} (hg : w1.grownBy w' (some g)) (hw : w.heap.size ≤ g) : Kp w w' gx vt :=
  ⟨hg.os.trans h.os, hg.tape.trans h.tape, hg.output.trans h.output, Nat.le_trans h.size hg.size, fun b hb hx hv => (hg.block b (Nat.lt_of_lt_of_le hb h.size) (by intro e; have := Option.some.inj e; omega)).trans (h.block b hb hx hv)⟩

/-- What lengths answers. -/
def LnPost (B : Nat) (w : World) (gx : Nat) (s : ByteArray) (vt fx : Value) (many : Nat) (goal : List Int × St) (e : Ending) (w' : World) : Prop :=
  Rd B w' gx s goal.2 vt fx ∧ Kp w w' gx vt ∧ ((goal.2.why = 0 ∧ ∃ gl, e = .returned (.slice (some ⟨gl, 0, none⟩) many many) ∧ IntsAt w' gl 0 many (fun i => goal.1.getD i 0) ∧ w.heap.size ≤ gl ∧ goal.1.length = many ∧ ∀ y ∈ goal.1, 0 ≤ y ∧ y ≤ 15) ∨
    (goal.2.why ≠ 0 ∧ e = endOf goal.2.why .nilFunc))

theorem symF_dead_fst {s : ByteArray} {z : Nat → Int} {n : Nat} {k : Int} {σ σ2 : St} (h0 : σ.why = 0) (h : (k, σ2) = symF s (codeT z n) n σ) (hy : σ2.why ≠ 0) : k < 16 := by
  have e1 : (symF s (codeT z n) n σ).1 = k := by rw [← h]
  have e2 : (symF s (codeT z n) n σ).2 = σ2 := by rw [← h]
  have := symGo_dead_fst (s := s) (c := codeT z n) (n := n) 17 .empty σ h0 (by show (symF s (codeT z n) n σ).2.why ≠ 0; rw [e2]; exact hy)
  have e3 : (symF s (codeT z n) n σ).1 = -1 := this
  omega

section
variable {B : Nat} {w wr w2 : World} {gx : Nat} {s : ByteArray} {vt fx : Value} {z : Nat → Int} {g gs gl many : Nat} {A : Array Value} {sy : Nat → Nat} {f : Nat} {L : List Int} {σ : St} {goal : List Int × St}

theorem LnR.fuel1 (h : LnR B w wr gx s vt fx z g gs gl many A sy f L σ goal) : ∃ f', f = f' + 1 := ⟨f - 1, by have := h.few; have := h.fuel; omega⟩

/-- Something stopped the reading of a step. -/
theorem LnR.fail (h : LnR B w wr gx s vt fx z g gs gl many A sy f L σ goal) (hl : L.length < many) {N : Nat} {v : Int} {σ' : St} (hk : lenStep s L (symF s (codeT z 19) 19 σ) = (false, N, v, σ'))
    (h2 : Rd B w2 gx s σ' vt fx) (k2 : Kp w w2 gx vt) (hy : σ'.why ≠ 0) : LnPost B w gx s vt fx many goal (endOf σ'.why .nilFunc) w2 := by
  obtain ⟨f', rfl⟩ := h.fuel1
  have e : goal.2 = σ' := by rw [← h.eq, lenGo_next hl h.why hk]; exact lenGo_dead hy _
  exact ⟨by rw [e]; exact h2, k2, Or.inr ⟨by rw [e]; exact hy, by rw [e]⟩⟩

theorem LnR.nothing (h : LnR B w wr gx s vt fx z g gs gl many A sy f L σ goal) (hl : L.length < many) {σ' : St} (hk : lenStep s L (symF s (codeT z 19) 19 σ) = (true, 0, 0, stopF σ' 1)) (hy : σ'.why = 0)
    (h2 : Rd B w2 gx s σ' vt fx) (k2 : Kp w w2 gx vt) : LnPost B w gx s vt fx many goal (endOf 1 .nilFunc) w2 := by
  obtain ⟨f', rfl⟩ := h.fuel1
  have e : goal.2 = { σ' with why := 1 } := by rw [← h.eq, lenGo_nothing hl h.why hk, stopF_alive hy]
  exact ⟨by rw [e]; exact h2.congr rfl rfl, k2, Or.inr ⟨by rw [e]; show (1 : Nat) ≠ 0; omega, by rw [e]⟩⟩

theorem LnR.over (h : LnR B w wr gx s vt fx z g gs gl many A sy f L σ goal) (hl : L.length < many) {N : Nat} {v : Int} {σ' : St} (hk : lenStep s L (symF s (codeT z 19) 19 σ) = (false, N, v, σ'))
    (h2 : Rd B w2 gx s σ' vt fx) (k2 : Kp w w2 gx vt) (hy : σ'.why = 0) (hN : many < L.length + N) : LnPost B w gx s vt fx many goal (endOf 1 .nilFunc) w2 := by
  obtain ⟨f', rfl⟩ := h.fuel1
  have hf := h.fuel
  obtain ⟨f2, rfl⟩ : ∃ f2, f' = f2 + 1 := ⟨f' - 1, by omega⟩
  have e : goal.2 = { σ' with why := 1 } := by
    rw [← h.eq, lenGo_next hl h.why hk, lenGo_over (by rw [List.length_append, List.length_replicate]; exact hN), stopF_alive hy]
  exact ⟨by rw [e]; exact h2.congr rfl rfl, k2, Or.inr ⟨by rw [e]; show (1 : Nat) ≠ 0; omega, by rw [e]⟩⟩

theorem LnR.more (h : LnR B w wr gx s vt fx z g gs gl many A sy f L σ goal) (hl : L.length < many) {N : Nat} {v : Int} {σ' : St} (hk : lenStep s L (symF s (codeT z 19) 19 σ) = (false, N, v, σ')) (hf : Fit s σ') (h1 : 1 ≤ N) (hv : 0 ≤ v ∧ v ≤ 15)
    (h2 : Rd B w2 gx s σ' vt fx) (k2 : Kp w w2 gx vt) (hy : σ'.why = 0) (hN : ¬ many < L.length + N) (hset : SetIn w2 z 19 g sy) (hbox : w2.heap[gs]? = some (.cells A 80 (0, 0)))
    (hown : w2.ownsRow w.heap.size 3 1 (.slice (some ⟨gl, 0, none⟩) (L.length + N) many) (L.length + N) (intsL L ++ List.replicate N (.int .i64 v))) :
    LnR B w w2 gx s vt fx z g gs gl many A sy (f - 1) (L ++ List.replicate N v) σ' goal := by
  obtain ⟨f', rfl⟩ := h.fuel1
  have hfu := h.fuel
  have el : (L ++ List.replicate N v).length = L.length + N := by rw [List.length_append, List.length_replicate]
  refine ⟨h2, k2, hf, hy, hset, hbox, by rw [el, ← intsL_append]; exact hown, by omega, by rw [el]; omega, rng_append h.rng hv, ?_⟩
  rw [← h.eq, lenGo_next hl h.why hk]
  rfl

theorem LnR.done (h : LnR B w wr gx s vt fx z g gs gl many A sy f L σ goal) (hl : L.length = many) : LnPost B w gx s vt fx many goal (.returned (.slice (some ⟨gl, 0, none⟩) many many)) wr := by
  obtain ⟨f', rfl⟩ := h.fuel1
  have e : goal = (L, σ) := by rw [← h.eq, lenGo_end hl]
  have hg := h.own.lt gl rfl
  refine ⟨by rw [e]; exact h.rd, h.kp, Or.inl ⟨by rw [e]; exact h.why, gl, rfl, ⟨fun i hi => ?_, hg.2⟩, hg.1, by rw [e]; exact hl, by rw [e]; exact h.rng⟩⟩
  have c := h.own.cellAt i (by omega)
  rw [Nat.zero_add, c, e, intsL_at L i (by omega)]
end

end Go.Proofs.YtnfghnolklhppaaDoor
