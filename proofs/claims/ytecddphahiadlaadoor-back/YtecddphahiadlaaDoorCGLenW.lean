import Derived.Test.YtecddphahiadlaaDoorCGLcW
/- The list of lengths: plain facts for the program's lengths. -/
namespace Go.Proofs.YtecddphahiadlaaDoor
open Go.RowKit

theorem stopF_alive {σ : St} (h : σ.why = 0) : stopF σ 1 = { σ with why := 1 } := by unfold stopF; rw [if_pos h]
theorem stopF_dead {σ : St} (h : σ.why ≠ 0) (y : Nat) : stopF σ y = σ := by unfold stopF; rw [if_neg h]

theorem lenGo_dead {s : ByteArray} {c : Nat → ByteArray} {n : Nat} {L : List Int} {σ : St} (h : σ.why ≠ 0) (f : Nat) : (lenGo s c n f L σ).2 = σ := by
  cases f with
  | zero => rfl
  | succ f =>
    simp only [lenGo]
    rw [if_neg (fun x => h x.2)]
    show (if n < L.length then stopF σ 1 else σ) = σ
    rw [stopF_dead h]
    split <;> rfl
theorem lenGo_over {s : ByteArray} {c : Nat → ByteArray} {n : Nat} {L : List Int} {σ : St} (h : n < L.length) (f : Nat) : (lenGo s c n (f + 1) L σ).2 = stopF σ 1 := by
  simp only [lenGo]
  rw [if_neg (fun x => by omega)]
  show (if n < L.length then stopF σ 1 else σ) = _
  rw [if_pos h]
theorem lenGo_end {s : ByteArray} {c : Nat → ByteArray} {n : Nat} {L : List Int} {σ : St} (h : L.length = n) (f : Nat) : lenGo s c n (f + 1) L σ = (L, σ) := by
  simp only [lenGo]
  rw [if_neg (fun x => by omega), if_neg (by omega)]
theorem lenGo_next {s : ByteArray} {c : Nat → ByteArray} {n : Nat} {L : List Int} {σ : St} (h : L.length < n) (hy : σ.why = 0) {N : Nat} {v : Int} {σ' : St} (hk : lenStep s L (symF s c 19 σ) = (false, N, v, σ')) (f : Nat) :
    lenGo s c n (f + 1) L σ = lenGo s c n f (L ++ List.replicate N v) σ' := by
  simp only [lenGo]
  rw [if_pos ⟨h, hy⟩, hk, if_neg (by simp)]
theorem lenGo_nothing {s : ByteArray} {c : Nat → ByteArray} {n : Nat} {L : List Int} {σ : St} (h : L.length < n) (hy : σ.why = 0) {σ' : St} (hk : lenStep s L (symF s c 19 σ) = (true, 0, 0, σ')) (f : Nat) :
    lenGo s c n (f + 1) L σ = ([], σ') := by
  simp only [lenGo]
  rw [if_pos ⟨h, hy⟩, hk, if_pos rfl]

theorem lenStep_one' (s : ByteArray) (L : List Int) (k : Int) (σ : St) (h : k < 16) : lenStep s L (k, σ) = (false, 1, k, σ) := by
  unfold lenStep; rw [if_pos h]
theorem lenStep_16n (s : ByteArray) (L : List Int) (σ : St) (h : L.length = 0) : lenStep s L (16, σ) = (true, 0, 0, stopF σ 1) := by
  unfold lenStep; rw [if_neg (by show ¬ (16 : Int) < 16; omega), if_pos rfl, if_pos h]
theorem lenStep_16 (s : ByteArray) (L : List Int) (σ : St) (h : ¬ L.length = 0) : lenStep s L (16, σ) = (false, (numF s 2 σ).1 + 3, L.getD (L.length - 1) 0, (numF s 2 σ).2) := by
  unfold lenStep; rw [if_neg (by show ¬ (16 : Int) < 16; omega), if_pos rfl, if_neg h]
theorem lenStep_17 (s : ByteArray) (L : List Int) (σ : St) : lenStep s L (17, σ) = (false, (numF s 3 σ).1 + 3, 0, (numF s 3 σ).2) := by
  unfold lenStep; rw [if_neg (by show ¬ (17 : Int) < 16; omega), if_neg (by show ¬ (17 : Int) = 16; omega), if_pos rfl]
theorem lenStep_18 (s : ByteArray) (L : List Int) (σ : St) : lenStep s L (18, σ) = (false, (numF s 7 σ).1 + 11, 0, (numF s 7 σ).2) := by
  unfold lenStep; rw [if_neg (by show ¬ (18 : Int) < 16; omega), if_neg (by show ¬ (18 : Int) = 16; omega), if_neg (by show ¬ (18 : Int) = 17; omega)]

theorem symGo_dead_fst {s : ByteArray} {c : Nat → ByteArray} {n : Nat} : ∀ (f : Nat) (cur : ByteArray) (σ : St), σ.why = 0 → (symGo s c n f cur σ).2.why ≠ 0 → (symGo s c n f cur σ).1 = -1
  | 0, _, _, _, _ => rfl
  | f + 1, cur, σ, h0, h => by
    simp only [symGo] at h ⊢
    cases hh : hitF c cur n 0 with
    | some i =>
      rw [hh] at h
      exact absurd h0 h
    | none =>
      simp only [hh] at h ⊢
      by_cases hsb : someB c cur n = true
      · rw [if_pos hsb] at h ⊢
        by_cases hb : (bitF s σ).2.why = 0
        · rw [if_pos hb] at h ⊢
          exact symGo_dead_fst f _ _ hb h
        · rw [if_neg hb]
      · rw [if_neg hsb]

/-- Numbers as values. -/
def intsL (L : List Int) : List Value := L.map fun x => Value.int .i64 x
theorem intsL_length (L : List Int) : (intsL L).length = L.length := by simp [intsL]
theorem intsL_append (L : List Int) (n : Nat) (v : Int) : intsL L ++ List.replicate n (.int .i64 v) = intsL (L ++ List.replicate n v) := by simp [intsL]
theorem intsL_at (L : List Int) (j : Nat) (hj : j < L.length) : (intsL L)[j]? = some (.int .i64 (L.getD j 0)) := by
  unfold intsL
  rw [List.getElem?_map, List.getElem?_eq_getElem hj]
  simp [List.getD_eq_getElem?_getD, List.getElem?_eq_getElem hj]

/-- The state of the loop over the lengths. -/
structure LnR (B : Nat) (w wr : World) (gx : Nat) (s : ByteArray) (vt : Value) (fx : Ex) (z : Nat → Int) (g gs gl many : Nat) (A : Array Value) (sy : Nat → Nat) (f : Nat) (L : List Int) (σ : St) (goal : List Int × St) : Prop where
  rd : Rd B wr gx s σ vt fx
  kp : Kp w wr gx vt
  fit : Fit s σ
  why : σ.why = 0
  set : SetIn wr z 19 g sy
  box : wr.heap[gs]? = some (.cells A 145 (0, 0))
  own : wr.ownsRow w.heap.size 3 1 (.slice (some ⟨gl, 0, none⟩) L.length many) L.length (intsL L)
  few : L.length ≤ many
  fuel : many + 1 ≤ L.length + f
  rng : ∀ y ∈ L, 0 ≤ y ∧ y ≤ 15
  eq : lenGo s (codeT z 19) many f L σ = goal

theorem Rd.grown {B : Nat} {w w' : World} {gx : Nat} {s : ByteArray} {σ : St} {vt : Value} {fx : Ex} (h : Rd B w gx s σ vt fx) {g : Nat} (hg : w.grownBy w' (some g)) (hx : gx ≠ g) (hv : vt.ownBlock ≠ some g) : Rd B w' gx s σ vt fx := by
  refine ⟨h.le, h.big, h.row.of_block (hg.block gx h.row.lt (by intro e; exact hx (Option.some.inj e))), ?_, h.ne⟩
  have hl := h.own.lt
  obtain ⟨q1, q2⟩ := h.own
  refine ⟨q1, ?_⟩
  rcases q2 with q2 | ⟨g', cap, cur, hv', hbb, hh, r⟩
  · exact Or.inl q2
  · exact Or.inr ⟨g', cap, cur, hv', hbb, (hg.block g' (hl g' (by rw [hv']; rfl)).2 (by intro e; exact hv (by rw [hv', ← Option.some.inj e]; rfl))).trans hh, r⟩
theorem Kp.grown {w w1 w' : World} {gx : Nat} {vt : Value} (h : Kp w w1 gx vt) {g : Nat} (hg : w1.grownBy w' (some g)) (hw : w.heap.size ≤ g) : Kp w w' gx vt :=
  ⟨hg.os.trans h.os, hg.tape.trans h.tape, hg.output.trans h.output, Nat.le_trans h.size hg.size, fun b hb hx hv => (hg.block b (Nat.lt_of_lt_of_le hb h.size) (by intro e; have := Option.some.inj e; omega)).trans (h.block b hb hx hv)⟩

/-- What lengths answers. -/
def LnPost (B : Nat) (w : World) (gx : Nat) (s : ByteArray) (vt : Value) (fx : Ex) (many : Nat) (goal : List Int × St) (e : Ending) (w' : World) : Prop :=
  Rd B w' gx s goal.2 vt fx ∧ Kp w w' gx vt ∧ ((goal.2.why = 0 ∧ ∃ gl, e = .returned (.slice (some ⟨gl, 0, none⟩) many many) ∧ IntsAt w' gl 0 many (fun i => goal.1.getD i 0) ∧ w.heap.size ≤ gl ∧ goal.1.length = many ∧ ∀ y ∈ goal.1, 0 ≤ y ∧ y ≤ 15) ∨
    (goal.2.why ≠ 0 ∧ e = endOf goal.2.why .nilFunc))

theorem symF_dead_fst {s : ByteArray} {z : Nat → Int} {n : Nat} {k : Int} {σ σ2 : St} (h0 : σ.why = 0) (h : (k, σ2) = symF s (codeT z n) n σ) (hy : σ2.why ≠ 0) : k < 16 := by
  have e1 : (symF s (codeT z n) n σ).1 = k := by rw [← h]
  have e2 : (symF s (codeT z n) n σ).2 = σ2 := by rw [← h]
  have := symGo_dead_fst (s := s) (c := codeT z n) (n := n) 17 .empty σ h0 (by show (symF s (codeT z n) n σ).2.why ≠ 0; rw [e2]; exact hy)
  have e3 : (symF s (codeT z n) n σ).1 = -1 := this
  omega

section
variable {B : Nat} {w wr w2 : World} {gx : Nat} {s : ByteArray} {vt : Value} {fx : Ex} {z : Nat → Int} {g gs gl many : Nat} {A : Array Value} {sy : Nat → Nat} {f : Nat} {L : List Int} {σ : St} {goal : List Int × St}

theorem LnR.fuel1 (h : LnR B w wr gx s vt fx z g gs gl many A sy f L σ goal) : ∃ f', f = f' + 1 := ⟨f - 1, by have := h.few; have := h.fuel; omega⟩

/-- Something stopped the reading of a step. -/
theorem LnR.fail (h : LnR B w wr gx s vt fx z g gs gl many A sy f L σ goal) (hl : L.length < many) {N : Nat} {v : Int} {σ' : St} (hk : lenStep s L (symF s (codeT z 19) 19 σ) = (false, N, v, σ'))
    (h2 : Rd B w2 gx s σ' vt fx) (k2 : Kp w w2 gx vt) (hy : σ'.why ≠ 0) : LnPost B w gx s vt fx many goal (endOf σ'.why .nilFunc) w2 := by
  obtain ⟨f', rfl⟩ := h.fuel1
  have e : goal.2 = σ' := by rw [← h.eq, lenGo_next hl h.why hk]; exact lenGo_dead hy _
  exact ⟨by rw [e]; exact h2, k2, Or.inr ⟨by rw [e]; exact hy, by rw [e]⟩⟩

theorem LnR.nothing (h : LnR B w wr gx s vt fx z g gs gl many A sy f L σ goal) (hl : L.length < many) {σ' : St} (hk : lenStep s L (symF s (codeT z 19) 19 σ) = (true, 0, 0, stopF σ' 1)) (hy : σ'.why = 0)
    (h2 : Rd B w2 gx s σ' vt fx) (k2 : Kp w w2 gx vt) : LnPost B w gx s vt fx many goal (endOf 1 .nilFunc) w2 := by
  obtain ⟨f', rfl⟩ := h.fuel1
  have e : goal.2 = { σ' with why := 1 } := by rw [← h.eq, lenGo_nothing hl h.why hk, stopF_alive hy]
  exact ⟨by rw [e]; exact h2.congr rfl rfl, k2, Or.inr ⟨by rw [e]; show (1 : Nat) ≠ 0; omega, by rw [e]⟩⟩

theorem LnR.over (h : LnR B w wr gx s vt fx z g gs gl many A sy f L σ goal) (hl : L.length < many) {N : Nat} {v : Int} {σ' : St} (hk : lenStep s L (symF s (codeT z 19) 19 σ) = (false, N, v, σ'))
    (h2 : Rd B w2 gx s σ' vt fx) (k2 : Kp w w2 gx vt) (hy : σ'.why = 0) (hN : many < L.length + N) : LnPost B w gx s vt fx many goal (endOf 1 .nilFunc) w2 := by
  obtain ⟨f', rfl⟩ := h.fuel1
  have hf := h.fuel
  obtain ⟨f2, rfl⟩ : ∃ f2, f' = f2 + 1 := ⟨f' - 1, by omega⟩
  have e : goal.2 = { σ' with why := 1 } := by
    rw [← h.eq, lenGo_next hl h.why hk, lenGo_over (by rw [List.length_append, List.length_replicate]; exact hN), stopF_alive hy]
  exact ⟨by rw [e]; exact h2.congr rfl rfl, k2, Or.inr ⟨by rw [e]; show (1 : Nat) ≠ 0; omega, by rw [e]⟩⟩

theorem LnR.more (h : LnR B w wr gx s vt fx z g gs gl many A sy f L σ goal) (hl : L.length < many) {N : Nat} {v : Int} {σ' : St} (hk : lenStep s L (symF s (codeT z 19) 19 σ) = (false, N, v, σ')) (hf : Fit s σ') (h1 : 1 ≤ N) (hv : 0 ≤ v ∧ v ≤ 15)
    (h2 : Rd B w2 gx s σ' vt fx) (k2 : Kp w w2 gx vt) (hy : σ'.why = 0) (hN : ¬ many < L.length + N) (hset : SetIn w2 z 19 g sy) (hbox : w2.heap[gs]? = some (.cells A 145 (0, 0)))
    (hown : w2.ownsRow w.heap.size 3 1 (.slice (some ⟨gl, 0, none⟩) (L.length + N) many) (L.length + N) (intsL L ++ List.replicate N (.int .i64 v))) :
    LnR B w w2 gx s vt fx z g gs gl many A sy (f - 1) (L ++ List.replicate N v) σ' goal := by
  obtain ⟨f', rfl⟩ := h.fuel1
  have hfu := h.fuel
  have el : (L ++ List.replicate N v).length = L.length + N := by rw [List.length_append, List.length_replicate]
  refine ⟨h2, k2, hf, hy, hset, hbox, by rw [el, ← intsL_append]; exact hown, by omega, by rw [el]; omega, rng_append h.rng hv, ?_⟩
  rw [← h.eq, lenGo_next hl h.why hk]
  rfl

theorem LnR.done (h : LnR B w wr gx s vt fx z g gs gl many A sy f L σ goal) (hl : L.length = many) : LnPost B w gx s vt fx many goal (.returned (.slice (some ⟨gl, 0, none⟩) many many)) wr := by
  obtain ⟨f', rfl⟩ := h.fuel1
  have e : goal = (L, σ) := by rw [← h.eq, lenGo_end hl]
  have hg := h.own.lt gl rfl
  refine ⟨by rw [e]; exact h.rd, h.kp, Or.inl ⟨by rw [e]; exact h.why, gl, rfl, ⟨fun i hi => ?_, hg.2⟩, hg.1, by rw [e]; exact hl, by rw [e]; exact h.rng⟩⟩
  have c := h.own.cellAt i (by omega)
  rw [Nat.zero_add, c, e, intsL_at L i (by omega)]
end

end Go.Proofs.YtecddphahiadlaaDoor

/- The program's lengths, walked. -/
namespace Go.Proofs.YtecddphahiadlaaDoor
open Go.RowKit

theorem _root_.Go.World.ownsRow.kp' {w w' : World} {B n g cap : Nat} {xs : List Value} {e : TypeId} (h : w.ownsRow B e 1 (.slice (some ⟨g, 0, none⟩) n cap) n xs) (hb : w'.heap[g]? = w.heap[g]?) : w'.ownsRow B e 1 (.slice (some ⟨g, 0, none⟩) n cap) n xs := by
  obtain ⟨q1, q2⟩ := h
  refine ⟨q1, ?_⟩
  rcases q2 with ⟨q2, _⟩ | ⟨g', cap', cur, hv, hbb, hh, r⟩
  · exact absurd q2 (by simp)
  · have e1 : g = g' := by simp at hv; exact hv.1
    subst e1
    exact Or.inr ⟨g, cap', cur, hv, hbb, hb.trans hh, r⟩

set_option maxRecDepth 4000 in
set_option maxHeartbeats 2000000 in
theorem glengths_any (B gx g many : Nat) (s : ByteArray) (σ : St) (vt : Value) (fx : Ex) (z : Nat → Int) (sy : Nat → Nat) (w : World) (h : Rd B w gx s σ vt fx) (hs : s.size ≤ 140737488400000) (hf : Fit s σ) (hy : σ.why = 0)
    (hset : SetIn w z 19 g sy) (hgx : g ≠ gx) (hvg : vt.ownBlock ≠ some g) (hmany : many ≤ 700) :
    Calls Tryd.prog 120 #[.pointer (some ⟨gx, 0, none⟩), setV z 19 g, .int .i64 (many : Int)] w (LnPost B w gx s vt fx many (lenGo s (codeT z 19) many (many + 1) [] σ)) := by
  obtain ⟨i0, hi0, hz0, hs0, hby⟩ := info_parts Tryd.info3
  obtain ⟨A, hA⟩ : ∃ A, A = setA (cntN z 19) (.slice (some ⟨g, 0, none⟩) (pas (cntN z 19) 15) (pas (cntN z 19) 15)) := ⟨_, rfl⟩
  have hsv : setV z 19 g = .agg A := by rw [hA]; rfl
  have hAs : (Tryd.prog.info? 145).map (·.size) = some A.size := by rw [hA]; exact Tryd.size145
  have hSy := fun (σ : St) w' h hf hy hset => gsymbol_any B gx g 19 s σ vt fx z sy w' h hs hf hy hset hgx hvg
  rw [hsv] at hSy ⊢
  have HSy : Hid (_) := hSy
  clear hSy hsv hA
  have hgl := h.row.lt
  have hgg := hset.row.lt
  have hvn : ∀ g, vt.ownBlock = some g → g < w.heap.size := fun g e => (h.own.lt g e).2
  have hbx : (w.alloc (.cells A 145)).heap[w.heap.size]? = some (.cells A 145 (0, 0)) := heap_alloc_last w (.cells A 145)
  have hfst := fun σ1 => symF_fst (c := codeT z 19) (n := 19) (codeT_size hset.tidy) σ1 (s := s)
  have HFS : Hid (_) := hfst
  obtain ⟨goal, hgoal⟩ : ∃ goal, goal = lenGo s (codeT z 19) many (many + 1) [] σ := ⟨_, rfl⟩
  rw [← hgoal]
  have HG : Hid (_) := hgoal
  clear hgoal hfst
  go_enter Tryd.func120, Tryd.ntmps120
  go_wp2_with (first | (at_make; refine wpList_make_own (w.alloc (.cells A 145)) rfl (.const (.int .i64 0)) (.tmp 10) 29 rfl w.heap.size 3 i0 (.int .i64 0) 1 Tryd.underlying29 hi0 hz0 hs0 .i64 .i64 (many : Int) many rfl rfl rfl (by rw [hby]; omega) (by unfold maxLen; omega) (by simp) ?_) | fail)
  intro w1 ho1 hg1
  have e1 : (w.alloc (.cells A 145)).heap.size = w.heap.size + 1 := by simp
  have hb1 : Below (w.alloc (.cells A 145)).heap.size (w.alloc (.cells A 145)) w1 := ⟨hg1.os, hg1.tape, hg1.output, hg1.size, fun b hb => hg1.block b hb (by simp)⟩
  first | rw [e1] at ho1 | skip
  obtain ⟨gs, hgs⟩ : ∃ gs, gs = w.heap.size := ⟨_, rfl⟩
  obtain ⟨gl, hgll⟩ : ∃ gl, gl = w.heap.size + 1 := ⟨_, rfl⟩
  have hKa : Kp w (w.alloc (.cells A 145)) gx vt := Kp.alloc w _ gx vt
  have hK1 := hKa.trans (Kp.below hb1 gx vt)
  have h1 := (h.alloc (.cells A 145)).kp' (Kp.below hb1 gx vt) hb1
  have set1 := (hset.kp hKa hgx hvg).kp (Kp.below hb1 gx vt) hgx hvg
  have box1 : w1.heap[gs]? = some (.cells A 145 (0, 0)) := by rw [hgs]; exact (hb1.block _ (by simp)).trans hbx
  have hs1 := hb1.size
  have hgsx : gs ≠ gx := by omega
  have hglx : gl ≠ gx := by omega
  have hgsl : gl ≠ gs := by omega
  have hggl : gl ≠ g := by omega
  have hvs : vt.ownBlock ≠ some gs := fun e => by have := hvn _ e; omega
  have hvl : vt.ownBlock ≠ some gl := fun e => by have := hvn _ e; omega
  have hwl : w.heap.size ≤ gl := by omega
  have hgs1 : gs < w1.heap.size := by omega
  have R0 : LnR B w w1 gx s vt fx z g gs gl many A sy (many + 1) [] σ goal := ⟨h1, hK1, hf, hy, set1, box1, by rw [hgll]; exact ho1, by simp, by simp, by simp, HG.out.symm⟩
  rw [← hgll, ← hgs]
  clear HG ho1 hg1 hb1 hK1 hKa h1 set1 box1 hbx hf hy h hset hvn hgs hgll e1 hs1 hgl hgg
  go_wp2_with fail
  go_loopw [7, 8, 9] (fun v _ _ wr => ∃ (f : Nat) (L : List Int) (σ1 : St), v = .slice (some ⟨gl, 0, none⟩) L.length many ∧ gs < wr.heap.size ∧ LnR B w wr gx s vt fx z g gs gl many A sy f L σ1 goal) (fun v _ _ _ => match v with | .slice _ n _ => many - n | _ => 0)
  case atStart => exact ⟨many + 1, [], σ, rfl, hgs1, R0⟩
  case round =>
    obtain ⟨f, L, σ1, rfl, hgsr, hrel⟩ := hrel
    clear R0 hgs1
    have hfew := hrel.few
    obtain ⟨T, hT⟩ : ∃ T, T = L.length := ⟨_, rfl⟩
    have HT : Hid (T = L.length) := hT
    by_cases hlt : L.length < many
    · rw [← hT]
      have hTm : T < many := by omega
      have hTI : (T : Int) < (many : Int) := by omega
      have hbox := hrel.box
      have HC : Hid (_) := HSy.out σ1 wr hrel.rd hrel.fit hrel.why hrel.set
      have hfs := HFS.out σ1
      have f2 : Fit s (symF s (codeT z 19) 19 σ1).2 := hrel.fit.symF
      clear hT
      go_wp2_with (first | (refine wpList_load_row rfl 145 (.tmp 4) rfl gs rfl 145 A (0, 0) _ hbox Tryd.underlying145 rfl hAs ?_) | fail)
      refine Calls.mono HC.out ?_
      rintro e w2 ⟨he, h2, k2⟩
      have K2 := hrel.kp.trans k2
      have set2 := hrel.set.kp k2 hgx hvg
      have box2 := (k2.block gs hgsr hgsx hvs).trans hbox
      have hglr := (hrel.own.lt gl rfl).2
      have own2 := hrel.own.kp' (k2.block gl hglr hglx hvl)
      have hgs2 := Nat.lt_of_lt_of_le hgsr k2.size
      have hgl2 := Nat.lt_of_lt_of_le hglr k2.size
      obtain ⟨q, hq⟩ : ∃ q, q = symF s (codeT z 19) 19 σ1 := ⟨_, rfl⟩
      rw [← hq] at he h2 hfs f2
      have HQ : Hid (_) := hq
      clear hq HC k2 hbox
      obtain ⟨kk, σ2⟩ := q
      simp only at he h2 hfs f2
      by_cases hy2 : σ2.why = 0
      · rw [endOf_ok hy2] at he; subst he
        obtain ⟨k', hk', rfl⟩ := hfs hy2
        have HQ0 : Hid (lenStep s L (symF s (codeT z 19) 19 σ1) = lenStep s L ((k' : Int), σ2)) := by show _ = _; rw [← HQ.out]
        clear hfs HQ
        rcases (by omega : k' < 16 ∨ k' = 16 ∨ k' = 17 ∨ k' = 18) with hc | hc | hc | hc
        · have e16 : ((k' : Int) == 16) = false := by rw [beq_eq_false_iff_ne]; omega
          have e17 : ((k' : Int) == 17) = false := by rw [beq_eq_false_iff_ne]; omega
          have e18 : ((k' : Int) == 18) = false := by rw [beq_eq_false_iff_ne]; omega
          obtain ⟨v, hv0⟩ : ∃ v : Int, v = (k' : Int) := ⟨_, rfl⟩
          obtain ⟨N, hN0⟩ : ∃ N : Nat, N = 1 := ⟨_, rfl⟩
          have HK : Hid (lenStep s L (symF s (codeT z 19) 19 σ1) = (false, N, v, σ2)) := by show _ = _; rw [HQ0.out, lenStep_one' _ _ _ _ (by omega), hv0, hN0]
          have hN1 : 1 ≤ N := by omega
          have hNb : N ≤ 200 := by omega
          have hv : 0 ≤ v ∧ v ≤ 15 := by omega
          have h3 := h2
          have K3 := K2
          have set3 := set2
          have box3 := box2
          have own3 := own2
          have hgs3 := hgs2
          have f3 := f2
          have hy3 := hy2
          have hNI : (1 : Int) = (N : Int) := by omega
          clear HQ0 h2 K2 set2 box2 own2 f2 hy2
          go_upto_region 13 with fail
          rw [← hv0, hNI]
          clear hNI hN0 hv0 e16 e17 e18 hc
          by_cases hN : many < L.length + N
          · have P := hrel.over hlt HK.out h3 K3 hy3 hN
            have dN : decide ((many : Int) - (T : Int) < (N : Int)) = true := by rw [decide_eq_true_iff]; have := HT.out; omega
            clear own3 set3 box3 hrel h3 K3
            go_wp2_with fail
            refine (wrong_any _).mono ?_
            rintro e w9 ⟨rfl, rfl⟩
            rw [endOf_bad (by omega)]
            rw [endOf_bad (by omega)] at P
            go_wp2
            exact ⟨rfl, P⟩
          · have dN : decide ((many : Int) - (T : Int) < (N : Int)) = false := by rw [decide_eq_false_iff_not]; have := HT.out; omega
            have hTN : T + N ≤ many := by have := HT.out; omega
            go_wp2_with fail
            refine (times_any N v _ (by omega) hN1).mono ?_
            rintro e w4 ⟨gt, rfl, ot, hb4⟩
            have own4 := ownsRow_below own3 hb4
            have k4 := Kp.below hb4 gx vt
            have h4 := h3.kp' k4 hb4
            have K4 := K3.trans k4
            have set4 := set3.kp k4 hgx hvg
            have box4 := (hb4.block gs hgs3).trans box3
            have hcells : ∀ j u, (List.replicate N (Value.int .i64 v))[j]? = some u → w4.cell? ((⟨gt, 0, none⟩ : Addr).add j) = some u := by
              intro j u hj
              rw [List.getElem?_replicate] at hj
              split at hj
              · rename_i hjN
                rw [addr_add0, ← Option.some.inj hj]
                exact ot.cell hjN
              · simp at hj
            have hone : ∀ u ∈ List.replicate N (Value.int .i64 v), u.oneCell' = true := by
              intro u hu
              rw [List.eq_of_mem_replicate hu]
              rfl
            have HM : Hid (_) := fun (w5 : World) a b c d e => hrel.more (w2 := w5) hlt HK.out f3 hN1 hv a b hy3 hN c d e
            have hgs4 := Nat.lt_of_lt_of_le hgs3 hb4.size
            rw [← HT.out] at own4
            clear own3 set3 box3 hrel h3 K3 hb4 k4 ot
            go_wp2_with (first | (at_builtin; refine wpList_append_fits w4 rfl (.tmp 58) (.tmp 61) 29 rfl w.heap.size 3 i0 1 Tryd.underlying29 hi0 hs0 gl T many _ rfl own4 ⟨gt, 0, none⟩ N N (List.replicate N (.int .i64 v)) rfl (by rw [List.length_replicate]; omega) hcells hone hTN ?_) | fail)
            intro w5 ho5 hg5
            have hsz5 := hg5.size
            have box5 := (hg5.block gs hgs4 (by intro e; exact hgsl (Option.some.inj e).symm)).trans box4
            have set5 : SetIn w5 z 19 g sy := ⟨set4.tidy, set4.many, set4.row.of_block (hg5.block g set4.row.lt (by intro e; exact hggl (Option.some.inj e).symm)), set4.ok⟩
            have h5 := h4.grown hg5 hglx.symm hvl
            have K5 := K4.grown hg5 hwl
            have R := HM.out w5 h5 K5 set5 box5 (by rw [← HT.out]; exact ho5)
            have hgs5 := Nat.lt_of_lt_of_le hgs4 hsz5
            have HL : Hid ((L ++ List.replicate N v).length = T + N) := by show _ = _; rw [List.length_append, List.length_replicate, HT.out]
            clear HM ho5 hg5 box4 set4 h4 K4 own4 box5 set5 h5 K5
            go_wp2
            go_roundw
            case rel => exact ⟨_, _, _, by rw [HL.out], hgs5, R⟩
            case measure => show many - (T + N) < many - T; omega
        · subst hc
          have set3' := set2
          by_cases hL0 : L.length = 0
          · have P := hrel.nothing hlt (HQ0.out.trans (lenStep_16n s L σ2 hL0)) hy2 h2 K2
            have eT : T = 0 := by have := HT.out; omega
            subst eT
            clear own2 set2 box2 hrel h2 K2 set3'
            go_wp2_with fail
            refine (wrong_any _).mono ?_
            rintro e w9 ⟨rfl, rfl⟩
            rw [endOf_bad (by omega)]
            rw [endOf_bad (by omega)] at P
            go_wp2
            exact ⟨rfl, P⟩
          · have eT : ((T : Int) == 0) = false := by rw [beq_eq_false_iff_ne]; have := HT.out; omega
            obtain ⟨j, hj⟩ : ∃ j, j = T - 1 := ⟨_, rfl⟩
            have hT1 : 1 ≤ T := by have := HT.out; omega
            have hjI : (T : Int) - 1 = (j : Int) := by omega
            have hjT : (j : Int) < (T : Int) := by omega
            obtain ⟨v, hv0⟩ : ∃ v : Int, v = L.getD (L.length - 1) 0 := ⟨_, rfl⟩
            have hjL : j = L.length - 1 := by have := HT.out; omega
            have hv : 0 ≤ v ∧ v ≤ 15 := by
              have e : L.getD (L.length - 1) 0 = L[L.length - 1]'(by omega) := by rw [List.getD_eq_getElem?_getD, List.getElem?_eq_getElem (by omega)]; rfl
              rw [hv0, e]
              exact hrel.rng _ (List.getElem_mem _)
            have cv : ∀ wx : World, wx.ownsRow w.heap.size 3 1 (.slice (some ⟨gl, 0, none⟩) L.length many) L.length (intsL L) → wx.cell? ⟨gl, j, none⟩ = some (.int .i64 v) := by
              intro wx hx
              rw [hx.cellAt j (by omega), intsL_at L j (by omega), hjL, ← hv0]
            have cv2 := cv _ own2
            have HCV : Hid (_) := cv
            have HV0 : Hid (_) := hv0
            have hwj : IntKind.i64.wrap (j : Int) = (j : Int) := by rw [IntKind.wrap_i64]; omega
            have hrd2 : Rd B w2.drew gx s σ2 vt fx := h2.drew
            clear cv hv0 hjL hj set3'
            go_wp2_with fail
            refine wp_region_any (by kernel_rfl) ?_
            change wpAny _ _ _ _ _ _ _ (World.drew _)
            refine wpAny_take (i := 0) (v := .slice (some ⟨gl, 0, none⟩) T many) rfl (by kernel_rfl) (by kernel_rfl) (by kernel_rfl) (fun _ _ _ h => h) (Or.inl ⟨by rfl, ?_⟩) ?_
            · intro w; go_simp
            refine wpAny_take (i := 1) (v := .slice (some ⟨gl, 0, none⟩) T many) rfl (by kernel_rfl) (by kernel_rfl) (by kernel_rfl) (fun _ _ _ h => h) (Or.inl ⟨by rfl, ?_⟩) ?_
            · intro w; go_simp
            refine wpAny_take (i := 2) (v := .int .i64 (T : Nat)) rfl (by kernel_rfl) (by kernel_rfl) (by kernel_rfl) (fun _ _ _ h => h) (Or.inl ⟨by rfl, ?_⟩) ?_
            · intro w; go_simp
            refine wpAny_take (i := 3) (v := .int .i64 (j : Nat)) rfl (by kernel_rfl) (by kernel_rfl) (by kernel_rfl) (fun _ _ _ h => h) (Or.inl ⟨by rfl, ?_⟩) ?_
            · intro w; go_simp
            refine wpAny_take (i := 4) (v := .pointer (some ⟨gl, j, none⟩)) rfl (by kernel_rfl) (by kernel_rfl) (by kernel_rfl) (fun _ _ _ h => h) (Or.inl ⟨by rfl, ?_⟩) ?_
            · intro w; go_simp
            refine wpAny_take (i := 6) (v := .pointer (some ⟨gx, 0, none⟩)) rfl (by kernel_rfl) (by kernel_rfl) (by kernel_rfl) (fun _ _ _ h => h) (Or.inl ⟨by rfl, ?_⟩) ?_
            · intro w; go_simp
            refine wpAny_take (i := 7) (v := .pointer (some ⟨gx, 0, none⟩)) rfl (by kernel_rfl) (by kernel_rfl) (by kernel_rfl) (fun _ _ _ h => h) (Or.inl ⟨by rfl, ?_⟩) ?_
            · intro w; go_simp
            refine wpAny_take (i := 8) (v := .pointer (some ⟨gx, 0, none⟩)) rfl (by kernel_rfl) (by kernel_rfl) (by kernel_rfl) (fun _ _ _ h => h) (Or.inl ⟨by rfl, ?_⟩) ?_
            · intro w; go_simp
            refine wpAny_ready (rs := [5, 9]) (by kernel_rfl) (by simp) ?_
            refine AllReady.cons rfl (fun K hK => ?_) (AllReady.cons rfl (fun K hK => ?_) AllReady.nil)
            · go_simp
              refine hK _ _ ?_
              clear hK K
              refine wpAny_ready (rs := [9]) (by kernel_rfl) (by simp) ?_
              refine AllReady.cons rfl (fun K hK => ?_) AllReady.nil
              go_simp
              go_at_call 96
              refine (gnumber_any B gx 2 s σ2 vt fx _ hrd2 hs f2.pos hy2 (by omega)).mono ?_
              rintro e w3 ⟨he, h3, k3'⟩
              have k3 : Kp w2 w3 gx vt := ⟨k3'.os, k3'.tape, k3'.output, k3'.size, k3'.block⟩
              have HK0 : Hid (_) := HQ0.out.trans (lenStep_16 s L σ2 hL0)
              have K3 := K2.trans k3
              have set3 := set2.kp k3 hgx hvg
              have box3 := (k3.block gs hgs2 hgsx hvs).trans box2
              have own3 := own2.kp' (k3.block gl hgl2 hglx hvl)
              have hgs3 := Nat.lt_of_lt_of_le hgs2 k3.size
              have f3 := f2.num 2
              have nb := numF_ltK s 2 4 σ2 rfl
              generalize numF s 2 σ2 = q at he h3 HK0 f3 nb
              obtain ⟨a, σ3⟩ := q
              simp only at he h3 f3 nb
              obtain ⟨N, hNN⟩ : ∃ N, N = a + 3 := ⟨_, rfl⟩
              have HK : Hid (lenStep s L (symF s (codeT z 19) 19 σ1) = (false, N, v, σ3)) := by show _ = _; rw [hNN, HV0.out]; exact HK0.out
              have hNI : (3 : Int) + (a : Int) = (N : Int) := by omega
              have hN1 : 1 ≤ N := by omega
              have hNb : N ≤ 200 := by omega
              have hwN : IntKind.i64.wrap (N : Int) = (N : Int) := by rw [IntKind.wrap_i64]; omega
              clear HK0 hNN set2 box2 own2 k3 K2 h2 f2
              have cv3 := HCV.out _ own3
              clear k3' hrd2
              by_cases hy3 : σ3.why = 0
              · rw [endOf_ok hy3] at he; subst he
                go_simp
                first | (refine hK _ _ ?_; clear hK K) | skip
                refine wpAny_take (i := 10) (v := .int .i64 (N : Nat)) rfl (by kernel_rfl) (by kernel_rfl) (by kernel_rfl) (fun _ _ _ h => h) (Or.inl ⟨by rfl, ?_⟩) ?_
                · intro w; go_simp
                refine wpAny_ready (rs := [11]) (by kernel_rfl) (by simp) ?_
                refine AllReady.cons rfl (fun K hK => ?_) AllReady.nil
                go_simp
                refine hK _ _ ?_
                clear hK K
                refine wpAny_ready (rs := [12]) (by kernel_rfl) (by simp) ?_
                refine AllReady.cons rfl (fun K hK => ?_) AllReady.nil
                go_simp
                refine hK _ _ ?_
                clear hK K
                refine wpAny_done (by kernel_rfl) ?_ _
                go_upto_region 13 with fail
                clear hNI hwj hjI hjT HCV cv3
                by_cases hN : many < L.length + N
                · have P := hrel.over hlt HK.out h3 K3 hy3 hN
                  have dN : decide ((many : Int) - (T : Int) < (N : Int)) = true := by rw [decide_eq_true_iff]; have := HT.out; omega
                  clear own3 set3 box3 hrel h3 K3
                  go_wp2_with fail
                  refine (wrong_any _).mono ?_
                  rintro e w9 ⟨rfl, rfl⟩
                  rw [endOf_bad (by omega)]
                  rw [endOf_bad (by omega)] at P
                  go_wp2
                  exact ⟨rfl, P⟩
                · have dN : decide ((many : Int) - (T : Int) < (N : Int)) = false := by rw [decide_eq_false_iff_not]; have := HT.out; omega
                  have hTN : T + N ≤ many := by have := HT.out; omega
                  go_wp2_with fail
                  refine (times_any N v _ (by omega) hN1).mono ?_
                  rintro e w4 ⟨gt, rfl, ot, hb4⟩
                  have own4 := ownsRow_below own3 hb4
                  have k4 := Kp.below hb4 gx vt
                  have h4 := h3.kp' k4 hb4
                  have K4 := K3.trans k4
                  have set4 := set3.kp k4 hgx hvg
                  have box4 := (hb4.block gs hgs3).trans box3
                  have hcells : ∀ j u, (List.replicate N (Value.int .i64 v))[j]? = some u → w4.cell? ((⟨gt, 0, none⟩ : Addr).add j) = some u := by
                    intro j u hj
                    rw [List.getElem?_replicate] at hj
                    split at hj
                    · rename_i hjN
                      rw [addr_add0, ← Option.some.inj hj]
                      exact ot.cell hjN
                    · simp at hj
                  have hone : ∀ u ∈ List.replicate N (Value.int .i64 v), u.oneCell' = true := by
                    intro u hu
                    rw [List.eq_of_mem_replicate hu]
                    rfl
                  have HM : Hid (_) := fun (w5 : World) a b c d e => hrel.more (w2 := w5) hlt HK.out f3 hN1 hv a b hy3 hN c d e
                  have hgs4 := Nat.lt_of_lt_of_le hgs3 hb4.size
                  rw [← HT.out] at own4
                  clear own3 set3 box3 hrel h3 K3 hb4 k4 ot
                  go_wp2_with (first | (at_builtin; refine wpList_append_fits w4 rfl (.tmp 58) (.tmp 61) 29 rfl w.heap.size 3 i0 1 Tryd.underlying29 hi0 hs0 gl T many _ rfl own4 ⟨gt, 0, none⟩ N N (List.replicate N (.int .i64 v)) rfl (by rw [List.length_replicate]; omega) hcells hone hTN ?_) | fail)
                  intro w5 ho5 hg5
                  have hsz5 := hg5.size
                  have box5 := (hg5.block gs hgs4 (by intro e; exact hgsl (Option.some.inj e).symm)).trans box4
                  have set5 : SetIn w5 z 19 g sy := ⟨set4.tidy, set4.many, set4.row.of_block (hg5.block g set4.row.lt (by intro e; exact hggl (Option.some.inj e).symm)), set4.ok⟩
                  have h5 := h4.grown hg5 hglx.symm hvl
                  have K5 := K4.grown hg5 hwl
                  have R := HM.out w5 h5 K5 set5 box5 (by rw [← HT.out]; exact ho5)
                  have hgs5 := Nat.lt_of_lt_of_le hgs4 hsz5
                  have HL : Hid ((L ++ List.replicate N v).length = T + N) := by show _ = _; rw [List.length_append, List.length_replicate, HT.out]
                  clear HM ho5 hg5 box4 set4 h4 K4 own4 box5 set5 h5 K5
                  go_wp2
                  go_roundw
                  case rel => exact ⟨_, _, _, by rw [HL.out], hgs5, R⟩
                  case measure => show many - (T + N) < many - T; omega
              · rw [endOf_bad hy3] at he; subst he
                have P := hrel.fail hlt HK.out h3 K3 hy3
                rw [endOf_bad hy3] at P
                clear own3 set3 box3 hrel h3 K3 hK
                go_wp2
                exact ⟨rfl, P⟩
            · go_simp
              go_at_call 96
              refine (gnumber_any B gx 2 s σ2 vt fx _ hrd2 hs f2.pos hy2 (by omega)).mono ?_
              rintro e w3 ⟨he, h3, k3'⟩
              have k3 : Kp w2 w3 gx vt := ⟨k3'.os, k3'.tape, k3'.output, k3'.size, k3'.block⟩
              have HK0 : Hid (_) := HQ0.out.trans (lenStep_16 s L σ2 hL0)
              have K3 := K2.trans k3
              have set3 := set2.kp k3 hgx hvg
              have box3 := (k3.block gs hgs2 hgsx hvs).trans box2
              have own3 := own2.kp' (k3.block gl hgl2 hglx hvl)
              have hgs3 := Nat.lt_of_lt_of_le hgs2 k3.size
              have f3 := f2.num 2
              have nb := numF_ltK s 2 4 σ2 rfl
              generalize numF s 2 σ2 = q at he h3 HK0 f3 nb
              obtain ⟨a, σ3⟩ := q
              simp only at he h3 f3 nb
              obtain ⟨N, hNN⟩ : ∃ N, N = a + 3 := ⟨_, rfl⟩
              have HK : Hid (lenStep s L (symF s (codeT z 19) 19 σ1) = (false, N, v, σ3)) := by show _ = _; rw [hNN, HV0.out]; exact HK0.out
              have hNI : (3 : Int) + (a : Int) = (N : Int) := by omega
              have hN1 : 1 ≤ N := by omega
              have hNb : N ≤ 200 := by omega
              have hwN : IntKind.i64.wrap (N : Int) = (N : Int) := by rw [IntKind.wrap_i64]; omega
              clear HK0 hNN set2 box2 own2 k3 K2 h2 f2
              have cv3 := HCV.out _ own3
              clear k3' hrd2
              by_cases hy3 : σ3.why = 0
              · rw [endOf_ok hy3] at he; subst he
                go_simp
                first | (refine hK _ _ ?_; clear hK K) | skip
                refine wpAny_take (i := 10) (v := .int .i64 (N : Nat)) rfl (by kernel_rfl) (by kernel_rfl) (by kernel_rfl) (fun _ _ _ h => h) (Or.inl ⟨by rfl, ?_⟩) ?_
                · intro w; go_simp
                refine wpAny_ready (rs := [5]) (by kernel_rfl) (by simp) ?_
                refine AllReady.cons rfl (fun K hK => ?_) AllReady.nil
                go_simp
                refine hK _ _ ?_
                clear hK K
                refine wpAny_ready (rs := [11]) (by kernel_rfl) (by simp) ?_
                refine AllReady.cons rfl (fun K hK => ?_) AllReady.nil
                go_simp
                refine hK _ _ ?_
                clear hK K
                refine wpAny_ready (rs := [12]) (by kernel_rfl) (by simp) ?_
                refine AllReady.cons rfl (fun K hK => ?_) AllReady.nil
                go_simp
                refine hK _ _ ?_
                clear hK K
                refine wpAny_done (by kernel_rfl) ?_ _
                go_upto_region 13 with fail
                clear hNI hwj hjI hjT HCV cv3
                by_cases hN : many < L.length + N
                · have P := hrel.over hlt HK.out h3 K3 hy3 hN
                  have dN : decide ((many : Int) - (T : Int) < (N : Int)) = true := by rw [decide_eq_true_iff]; have := HT.out; omega
                  clear own3 set3 box3 hrel h3 K3
                  go_wp2_with fail
                  refine (wrong_any _).mono ?_
                  rintro e w9 ⟨rfl, rfl⟩
                  rw [endOf_bad (by omega)]
                  rw [endOf_bad (by omega)] at P
                  go_wp2
                  exact ⟨rfl, P⟩
                · have dN : decide ((many : Int) - (T : Int) < (N : Int)) = false := by rw [decide_eq_false_iff_not]; have := HT.out; omega
                  have hTN : T + N ≤ many := by have := HT.out; omega
                  go_wp2_with fail
                  refine (times_any N v _ (by omega) hN1).mono ?_
                  rintro e w4 ⟨gt, rfl, ot, hb4⟩
                  have own4 := ownsRow_below own3 hb4
                  have k4 := Kp.below hb4 gx vt
                  have h4 := h3.kp' k4 hb4
                  have K4 := K3.trans k4
                  have set4 := set3.kp k4 hgx hvg
                  have box4 := (hb4.block gs hgs3).trans box3
                  have hcells : ∀ j u, (List.replicate N (Value.int .i64 v))[j]? = some u → w4.cell? ((⟨gt, 0, none⟩ : Addr).add j) = some u := by
                    intro j u hj
                    rw [List.getElem?_replicate] at hj
                    split at hj
                    · rename_i hjN
                      rw [addr_add0, ← Option.some.inj hj]
                      exact ot.cell hjN
                    · simp at hj
                  have hone : ∀ u ∈ List.replicate N (Value.int .i64 v), u.oneCell' = true := by
                    intro u hu
                    rw [List.eq_of_mem_replicate hu]
                    rfl
                  have HM : Hid (_) := fun (w5 : World) a b c d e => hrel.more (w2 := w5) hlt HK.out f3 hN1 hv a b hy3 hN c d e
                  have hgs4 := Nat.lt_of_lt_of_le hgs3 hb4.size
                  rw [← HT.out] at own4
                  clear own3 set3 box3 hrel h3 K3 hb4 k4 ot
                  go_wp2_with (first | (at_builtin; refine wpList_append_fits w4 rfl (.tmp 58) (.tmp 61) 29 rfl w.heap.size 3 i0 1 Tryd.underlying29 hi0 hs0 gl T many _ rfl own4 ⟨gt, 0, none⟩ N N (List.replicate N (.int .i64 v)) rfl (by rw [List.length_replicate]; omega) hcells hone hTN ?_) | fail)
                  intro w5 ho5 hg5
                  have hsz5 := hg5.size
                  have box5 := (hg5.block gs hgs4 (by intro e; exact hgsl (Option.some.inj e).symm)).trans box4
                  have set5 : SetIn w5 z 19 g sy := ⟨set4.tidy, set4.many, set4.row.of_block (hg5.block g set4.row.lt (by intro e; exact hggl (Option.some.inj e).symm)), set4.ok⟩
                  have h5 := h4.grown hg5 hglx.symm hvl
                  have K5 := K4.grown hg5 hwl
                  have R := HM.out w5 h5 K5 set5 box5 (by rw [← HT.out]; exact ho5)
                  have hgs5 := Nat.lt_of_lt_of_le hgs4 hsz5
                  have HL : Hid ((L ++ List.replicate N v).length = T + N) := by show _ = _; rw [List.length_append, List.length_replicate, HT.out]
                  clear HM ho5 hg5 box4 set4 h4 K4 own4 box5 set5 h5 K5
                  go_wp2
                  go_roundw
                  case rel => exact ⟨_, _, _, by rw [HL.out], hgs5, R⟩
                  case measure => show many - (T + N) < many - T; omega
              · rw [endOf_bad hy3] at he; subst he
                have P := hrel.fail hlt HK.out h3 K3 hy3
                rw [endOf_bad hy3] at P
                clear own3 set3 box3 hrel h3 K3 hK
                go_wp2
                exact ⟨rfl, P⟩
        · subst hc
          go_wp2_with fail
          refine (gnumber_any B gx 3 s σ2 vt fx _ h2 hs f2.pos hy2 (by omega)).mono ?_
          rintro e w3 ⟨he, h3, k3⟩
          obtain ⟨v, hv0⟩ : ∃ v : Int, v = 0 := ⟨_, rfl⟩
          have HV0 : Hid (_) := hv0
          have HK0 : Hid (_) := HQ0.out.trans (lenStep_17 s L σ2)
          have K3 := K2.trans k3
          have set3 := set2.kp k3 hgx hvg
          have box3 := (k3.block gs hgs2 hgsx hvs).trans box2
          have own3 := own2.kp' (k3.block gl hgl2 hglx hvl)
          have hgs3 := Nat.lt_of_lt_of_le hgs2 k3.size
          have f3 := f2.num 3
          have nb := numF_ltK s 3 8 σ2 rfl
          generalize numF s 3 σ2 = q at he h3 HK0 f3 nb
          obtain ⟨a, σ3⟩ := q
          simp only at he h3 f3 nb
          obtain ⟨N, hNN⟩ : ∃ N, N = a + 3 := ⟨_, rfl⟩
          have HK : Hid (lenStep s L (symF s (codeT z 19) 19 σ1) = (false, N, v, σ3)) := by show _ = _; rw [hNN, HV0.out]; exact HK0.out
          have hNI : (3 : Int) + (a : Int) = (N : Int) := by omega
          have hN1 : 1 ≤ N := by omega
          have hNb : N ≤ 200 := by omega
          have hwN : IntKind.i64.wrap (N : Int) = (N : Int) := by rw [IntKind.wrap_i64]; omega
          clear HK0 hNN set2 box2 own2 k3 K2 h2 f2
          have hv : 0 ≤ v ∧ v ≤ 15 := by omega
          by_cases hy3 : σ3.why = 0
          · rw [endOf_ok hy3] at he; subst he
            clear hv0
            go_upto_region 13 with fail
            rw [← HV0.out]
            clear hNI
            by_cases hN : many < L.length + N
            · have P := hrel.over hlt HK.out h3 K3 hy3 hN
              have dN : decide ((many : Int) - (T : Int) < (N : Int)) = true := by rw [decide_eq_true_iff]; have := HT.out; omega
              clear own3 set3 box3 hrel h3 K3
              go_wp2_with fail
              refine (wrong_any _).mono ?_
              rintro e w9 ⟨rfl, rfl⟩
              rw [endOf_bad (by omega)]
              rw [endOf_bad (by omega)] at P
              go_wp2
              exact ⟨rfl, P⟩
            · have dN : decide ((many : Int) - (T : Int) < (N : Int)) = false := by rw [decide_eq_false_iff_not]; have := HT.out; omega
              have hTN : T + N ≤ many := by have := HT.out; omega
              go_wp2_with fail
              refine (times_any N v _ (by omega) hN1).mono ?_
              rintro e w4 ⟨gt, rfl, ot, hb4⟩
              have own4 := ownsRow_below own3 hb4
              have k4 := Kp.below hb4 gx vt
              have h4 := h3.kp' k4 hb4
              have K4 := K3.trans k4
              have set4 := set3.kp k4 hgx hvg
              have box4 := (hb4.block gs hgs3).trans box3
              have hcells : ∀ j u, (List.replicate N (Value.int .i64 v))[j]? = some u → w4.cell? ((⟨gt, 0, none⟩ : Addr).add j) = some u := by
                intro j u hj
                rw [List.getElem?_replicate] at hj
                split at hj
                · rename_i hjN
                  rw [addr_add0, ← Option.some.inj hj]
                  exact ot.cell hjN
                · simp at hj
              have hone : ∀ u ∈ List.replicate N (Value.int .i64 v), u.oneCell' = true := by
                intro u hu
                rw [List.eq_of_mem_replicate hu]
                rfl
              have HM : Hid (_) := fun (w5 : World) a b c d e => hrel.more (w2 := w5) hlt HK.out f3 hN1 hv a b hy3 hN c d e
              have hgs4 := Nat.lt_of_lt_of_le hgs3 hb4.size
              rw [← HT.out] at own4
              clear own3 set3 box3 hrel h3 K3 hb4 k4 ot
              go_wp2_with (first | (at_builtin; refine wpList_append_fits w4 rfl (.tmp 58) (.tmp 61) 29 rfl w.heap.size 3 i0 1 Tryd.underlying29 hi0 hs0 gl T many _ rfl own4 ⟨gt, 0, none⟩ N N (List.replicate N (.int .i64 v)) rfl (by rw [List.length_replicate]; omega) hcells hone hTN ?_) | fail)
              intro w5 ho5 hg5
              have hsz5 := hg5.size
              have box5 := (hg5.block gs hgs4 (by intro e; exact hgsl (Option.some.inj e).symm)).trans box4
              have set5 : SetIn w5 z 19 g sy := ⟨set4.tidy, set4.many, set4.row.of_block (hg5.block g set4.row.lt (by intro e; exact hggl (Option.some.inj e).symm)), set4.ok⟩
              have h5 := h4.grown hg5 hglx.symm hvl
              have K5 := K4.grown hg5 hwl
              have R := HM.out w5 h5 K5 set5 box5 (by rw [← HT.out]; exact ho5)
              have hgs5 := Nat.lt_of_lt_of_le hgs4 hsz5
              have HL : Hid ((L ++ List.replicate N v).length = T + N) := by show _ = _; rw [List.length_append, List.length_replicate, HT.out]
              clear HM ho5 hg5 box4 set4 h4 K4 own4 box5 set5 h5 K5
              go_wp2
              go_roundw
              case rel => exact ⟨_, _, _, by rw [HL.out], hgs5, R⟩
              case measure => show many - (T + N) < many - T; omega
          · rw [endOf_bad hy3] at he; subst he
            have P := hrel.fail hlt HK.out h3 K3 hy3
            rw [endOf_bad hy3] at P
            clear own3 set3 box3 hrel h3 K3
            go_wp2
            exact ⟨rfl, P⟩
        · subst hc
          go_wp2_with fail
          refine (gnumber_any B gx 7 s σ2 vt fx _ h2 hs f2.pos hy2 (by omega)).mono ?_
          rintro e w3 ⟨he, h3, k3⟩
          obtain ⟨v, hv0⟩ : ∃ v : Int, v = 0 := ⟨_, rfl⟩
          have HV0 : Hid (_) := hv0
          have HK0 : Hid (_) := HQ0.out.trans (lenStep_18 s L σ2)
          have K3 := K2.trans k3
          have set3 := set2.kp k3 hgx hvg
          have box3 := (k3.block gs hgs2 hgsx hvs).trans box2
          have own3 := own2.kp' (k3.block gl hgl2 hglx hvl)
          have hgs3 := Nat.lt_of_lt_of_le hgs2 k3.size
          have f3 := f2.num 7
          have nb := numF_ltK s 7 128 σ2 rfl
          generalize numF s 7 σ2 = q at he h3 HK0 f3 nb
          obtain ⟨a, σ3⟩ := q
          simp only at he h3 f3 nb
          obtain ⟨N, hNN⟩ : ∃ N, N = a + 11 := ⟨_, rfl⟩
          have HK : Hid (lenStep s L (symF s (codeT z 19) 19 σ1) = (false, N, v, σ3)) := by show _ = _; rw [hNN, HV0.out]; exact HK0.out
          have hNI : (11 : Int) + (a : Int) = (N : Int) := by omega
          have hN1 : 1 ≤ N := by omega
          have hNb : N ≤ 200 := by omega
          have hwN : IntKind.i64.wrap (N : Int) = (N : Int) := by rw [IntKind.wrap_i64]; omega
          clear HK0 hNN set2 box2 own2 k3 K2 h2 f2
          have hv : 0 ≤ v ∧ v ≤ 15 := by omega
          by_cases hy3 : σ3.why = 0
          · rw [endOf_ok hy3] at he; subst he
            clear hv0
            go_upto_region 13 with fail
            rw [← HV0.out]
            clear hNI
            by_cases hN : many < L.length + N
            · have P := hrel.over hlt HK.out h3 K3 hy3 hN
              have dN : decide ((many : Int) - (T : Int) < (N : Int)) = true := by rw [decide_eq_true_iff]; have := HT.out; omega
              clear own3 set3 box3 hrel h3 K3
              go_wp2_with fail
              refine (wrong_any _).mono ?_
              rintro e w9 ⟨rfl, rfl⟩
              rw [endOf_bad (by omega)]
              rw [endOf_bad (by omega)] at P
              go_wp2
              exact ⟨rfl, P⟩
            · have dN : decide ((many : Int) - (T : Int) < (N : Int)) = false := by rw [decide_eq_false_iff_not]; have := HT.out; omega
              have hTN : T + N ≤ many := by have := HT.out; omega
              go_wp2_with fail
              refine (times_any N v _ (by omega) hN1).mono ?_
              rintro e w4 ⟨gt, rfl, ot, hb4⟩
              have own4 := ownsRow_below own3 hb4
              have k4 := Kp.below hb4 gx vt
              have h4 := h3.kp' k4 hb4
              have K4 := K3.trans k4
              have set4 := set3.kp k4 hgx hvg
              have box4 := (hb4.block gs hgs3).trans box3
              have hcells : ∀ j u, (List.replicate N (Value.int .i64 v))[j]? = some u → w4.cell? ((⟨gt, 0, none⟩ : Addr).add j) = some u := by
                intro j u hj
                rw [List.getElem?_replicate] at hj
                split at hj
                · rename_i hjN
                  rw [addr_add0, ← Option.some.inj hj]
                  exact ot.cell hjN
                · simp at hj
              have hone : ∀ u ∈ List.replicate N (Value.int .i64 v), u.oneCell' = true := by
                intro u hu
                rw [List.eq_of_mem_replicate hu]
                rfl
              have HM : Hid (_) := fun (w5 : World) a b c d e => hrel.more (w2 := w5) hlt HK.out f3 hN1 hv a b hy3 hN c d e
              have hgs4 := Nat.lt_of_lt_of_le hgs3 hb4.size
              rw [← HT.out] at own4
              clear own3 set3 box3 hrel h3 K3 hb4 k4 ot
              go_wp2_with (first | (at_builtin; refine wpList_append_fits w4 rfl (.tmp 58) (.tmp 61) 29 rfl w.heap.size 3 i0 1 Tryd.underlying29 hi0 hs0 gl T many _ rfl own4 ⟨gt, 0, none⟩ N N (List.replicate N (.int .i64 v)) rfl (by rw [List.length_replicate]; omega) hcells hone hTN ?_) | fail)
              intro w5 ho5 hg5
              have hsz5 := hg5.size
              have box5 := (hg5.block gs hgs4 (by intro e; exact hgsl (Option.some.inj e).symm)).trans box4
              have set5 : SetIn w5 z 19 g sy := ⟨set4.tidy, set4.many, set4.row.of_block (hg5.block g set4.row.lt (by intro e; exact hggl (Option.some.inj e).symm)), set4.ok⟩
              have h5 := h4.grown hg5 hglx.symm hvl
              have K5 := K4.grown hg5 hwl
              have R := HM.out w5 h5 K5 set5 box5 (by rw [← HT.out]; exact ho5)
              have hgs5 := Nat.lt_of_lt_of_le hgs4 hsz5
              have HL : Hid ((L ++ List.replicate N v).length = T + N) := by show _ = _; rw [List.length_append, List.length_replicate, HT.out]
              clear HM ho5 hg5 box4 set4 h4 K4 own4 box5 set5 h5 K5
              go_wp2
              go_roundw
              case rel => exact ⟨_, _, _, by rw [HL.out], hgs5, R⟩
              case measure => show many - (T + N) < many - T; omega
          · rw [endOf_bad hy3] at he; subst he
            have P := hrel.fail hlt HK.out h3 K3 hy3
            rw [endOf_bad hy3] at P
            clear own3 set3 box3 hrel h3 K3
            go_wp2
            exact ⟨rfl, P⟩
      · rw [endOf_bad hy2] at he; subst he
        have hkd : lenStep s L (symF s (codeT z 19) 19 σ1) = (false, 1, kk, σ2) := by
          rw [← HQ.out]
          exact lenStep_one' s L kk σ2 (symF_dead_fst hrel.why HQ.out hy2)
        have P := hrel.fail hlt hkd h2 K2 hy2
        rw [endOf_bad hy2] at P
        clear own2 set2 box2 hrel h2 K2 hkd HQ hfs
        go_wp2
        exact ⟨rfl, P⟩
    · have hTm : L.length = many := by omega
      have P := hrel.done hTm
      rw [hTm]
      clear hrel HT hT hTm hlt hfew
      go_wp2
      go_ret
      exact P

end Go.Proofs.YtecddphahiadlaaDoor
