import Derived.Test.YtecddphahiadlaaGreatDoorCGLcW
/- The list of lengths: plain facts for the program's lengths. -/
namespace Go.Proofs.YtecddphahiadlaaGreatDoor
open Go.RowKit
theorem stopF_alive {σ : St} (h : σ.why = 0) : stopF σ 1 = { σ with why := 1 } := by unfold stopF; rw [if_pos h]
theorem stopF_dead {σ : St} (h : σ.why ≠ 0) (y : Nat) : stopF σ y = σ := by unfold stopF; rw [if_neg h]
theorem lenGo_dead {s : ByteArray} {c : Nat → ByteArray} {n : Nat} {L : List Int} {σ : St} (h : σ.why ≠ 0) (f : Nat) : (lenGo s c n f L σ).2 = σ := by
 cases f with
 | zero => rfl
 |
  succ f =>
  simp only [lenGo]
  rw [if_neg (fun x => h x.2)]
  show (if n < L.length then stopF σ 1 else σ) = σ
  rw [stopF_dead h]
  split <;> rfl
theorem lenGo_over {s : ByteArray} {c : Nat → ByteArray} {n : Nat} {L : List Int} {σ : St} (h : n < L.length) (f : Nat) : (lenGo s c n (f + 1) L σ).2 = stopF σ 1 := by
 simp only [lenGo]
 rw [if_neg (fun x => by omega)]
 show (if n < L.length then stopF σ 1 else σ) = _
 rw [if_pos h]
theorem lenGo_end {s : ByteArray} {c : Nat → ByteArray} {n : Nat} {L : List Int} {σ : St} (h : L.length = n) (f : Nat) : lenGo s c n (f + 1) L σ = (L, σ) := by
 simp only [lenGo]
 rw [if_neg (fun x => by omega), if_neg (by omega)]
theorem lenGo_next {s : ByteArray} {c : Nat → ByteArray} {n : Nat} {L : List Int} {σ : St} (h : L.length < n) (hy : σ.why = 0) {N : Nat} {v : Int} {σ' : St} (hk : lenStep s L (symF s c 19 σ) = (false, N, v, σ')) (f : Nat) :
 lenGo s c n (f + 1) L σ = lenGo s c n f (L ++ List.replicate N v) σ' := by
 simp only [lenGo]
 rw [if_pos ⟨h, hy⟩, hk, if_neg (by simp)]
theorem lenGo_nothing {s : ByteArray} {c : Nat → ByteArray} {n : Nat} {L : List Int} {σ : St} (h : L.length < n) (hy : σ.why = 0) {σ' : St} (hk : lenStep s L (symF s c 19 σ) = (true, 0, 0, σ')) (f : Nat) :
 lenGo s c n (f + 1) L σ = ([], σ') := by
 simp only [lenGo]
 rw [if_pos ⟨h, hy⟩, hk, if_pos rfl]
theorem lenStep_one' (s : ByteArray) (L : List Int) (k : Int) (σ : St) (h : k < 16) : lenStep s L (k, σ) = (false, 1, k, σ) := by
 unfold lenStep; rw [if_pos h]
theorem lenStep_16n (s : ByteArray) (L : List Int) (σ : St) (h : L.length = 0) : lenStep s L (16, σ) = (true, 0, 0, stopF σ 1) := by
 unfold lenStep; rw [if_neg (by show ¬ (16 : Int) < 16; omega), if_pos rfl, if_pos h]
theorem lenStep_16 (s : ByteArray) (L : List Int) (σ : St) (h : ¬ L.length = 0) : lenStep s L (16, σ) = (false, (numF s 2 σ).1 + 3, L.getD (L.length - 1) 0, (numF s 2 σ).2) := by
 unfold lenStep; rw [if_neg (by show ¬ (16 : Int) < 16; omega), if_pos rfl, if_neg h]
theorem lenStep_17 (s : ByteArray) (L : List Int) (σ : St) : lenStep s L (17, σ) = (false, (numF s 3 σ).1 + 3, 0, (numF s 3 σ).2) := by
 unfold lenStep; rw [if_neg (by show ¬ (17 : Int) < 16; omega), if_neg (by show ¬ (17 : Int) = 16; omega), if_pos rfl]
theorem lenStep_18 (s : ByteArray) (L : List Int) (σ : St) : lenStep s L (18, σ) = (false, (numF s 7 σ).1 + 11, 0, (numF s 7 σ).2) := by
 unfold lenStep; rw [if_neg (by show ¬ (18 : Int) < 16; omega), if_neg (by show ¬ (18 : Int) = 16; omega), if_neg (by show ¬ (18 : Int) = 17; omega)]
theorem symGo_dead_fst {s : ByteArray} {c : Nat → ByteArray} {n : Nat} : ∀ (f : Nat) (cur : ByteArray) (σ : St), σ.why = 0 → (symGo s c n f cur σ).2.why ≠ 0 → (symGo s c n f cur σ).1 = -1
 | 0, _, _, _, _ => rfl
 |
  f + 1, cur, σ, h0, h => by
  simp only [symGo] at h ⊢
  cases hh : hitF c cur n 0 with
  |
   some i =>
   rw [hh] at h
   exact absurd h0 h
  |
   none =>
   simp only [hh] at h ⊢
   by_cases hsb : someB c cur n = true
   ·
    rw [if_pos hsb] at h ⊢
    by_cases hb : (bitF s σ).2.why = 0
    ·
     rw [if_pos hb] at h ⊢
     exact symGo_dead_fst f _ _ hb h
    · rw [if_neg hb]
   · rw [if_neg hsb]
/-- Numbers as values. -/
def intsL (L : List Int) : List Value := L.map fun x => Value.int .i64 x
theorem intsL_append (L : List Int) (n : Nat) (v : Int) : intsL L ++ List.replicate n (.int .i64 v) = intsL (L ++ List.replicate n v) := by simp [intsL]
theorem intsL_at (L : List Int) (j : Nat) (hj : j < L.length) : (intsL L)[j]? = some (.int .i64 (L.getD j 0)) := by
 unfold intsL
 rw [List.getElem?_map, List.getElem?_eq_getElem hj]
 simp [List.getD_eq_getElem?_getD, List.getElem?_eq_getElem hj]
/-- The state of the loop over the lengths. -/
structure LnR (B : Nat) (w wr : World) (gx : Nat) (s : ByteArray) (vt : Value) (fx : Ex) (z : Nat → Int) (g gs gl many : Nat) (A : Array Value) (sy : Nat → Nat) (f : Nat) (L : List Int) (σ : St) (goal : List Int × St) : Prop where
 rd : Rd B wr gx s σ vt fx
 kp : Kp w wr gx vt
 fit : Fit s σ
 why : σ.why = 0
 set : SetIn wr z 19 g sy
 box : wr.heap[gs]? = some (.cells A 185 (0, 0))
 own : wr.ownsRow w.heap.size 3 1 (.slice (some ⟨gl, 0, none⟩) L.length many) L.length (intsL L)
 few : L.length ≤ many
 fuel : many + 1 ≤ L.length + f
 rng : ∀ y ∈ L, 0 ≤ y ∧ y ≤ 15
 eq : lenGo s (codeT z 19) many f L σ = goal
theorem Rd.grown {B : Nat} {w w' : World} {gx : Nat} {s : ByteArray} {σ : St} {vt : Value} {fx : Ex} (h : Rd B w gx s σ vt fx) {g : Nat} (hg : w.grownBy w' (some g)) (hx : gx ≠ g) (hv : vt.ownBlock ≠ some g) : Rd B w' gx s σ vt fx := by
 refine ⟨h.le, h.big, h.row.of_block (hg.block gx h.row.lt (by intro e; exact hx (Option.some.inj e))), ?_, h.ne⟩
 have hl := h.own.lt
 obtain ⟨q1, q2⟩ := h.own
 refine ⟨q1, ?_⟩
 rcases q2 with q2 | ⟨g', cap, cur, hv', hbb, hh, r⟩
 · exact Or.inl q2
 · exact Or.inr ⟨g', cap, cur, hv', hbb, (hg.block g' (hl g' (by rw [hv']; rfl)).2 (by intro e; exact hv (by rw [hv', ← Option.some.inj e]; rfl))).trans hh, r⟩
theorem Kp.grown {w w1 w' : World} {gx : Nat} {vt : Value} (h : Kp w w1 gx vt) {g : Nat} (hg : w1.grownBy w' (some g)) (hw : w.heap.size ≤ g) : Kp w w' gx vt :=
 ⟨hg.os.trans h.os, hg.tape.trans h.tape, hg.output.trans h.output, Nat.le_trans h.size hg.size, fun b hb hx hv => (hg.block b (Nat.lt_of_lt_of_le hb h.size) (by intro e; have := Option.some.inj e; omega)).trans (h.block b hb hx hv)⟩
/-- What lengths answers. -/
def LnPost (B : Nat) (w : World) (gx : Nat) (s : ByteArray) (vt : Value) (fx : Ex) (many : Nat) (goal : List Int × St) (e : Ending) (w' : World) : Prop :=
 Rd B w' gx s goal.2 vt fx ∧ Kp w w' gx vt ∧ ((goal.2.why = 0 ∧ ∃ gl, e = .returned (.slice (some ⟨gl, 0, none⟩) many many) ∧ IntsAt w' gl 0 many (fun i => goal.1.getD i 0) ∧ w.heap.size ≤ gl ∧ goal.1.length = many ∧ ∀ y ∈ goal.1, 0 ≤ y ∧ y ≤ 15) ∨
  (goal.2.why ≠ 0 ∧ e = endOf goal.2.why .nilFunc))
theorem symF_dead_fst {s : ByteArray} {z : Nat → Int} {n : Nat} {k : Int} {σ σ2 : St} (h0 : σ.why = 0) (h : (k, σ2) = symF s (codeT z n) n σ) (hy : σ2.why ≠ 0) : k < 16 := by
 have e1 : (symF s (codeT z n) n σ).1 = k := by rw [← h]
 have e2 : (symF s (codeT z n) n σ).2 = σ2 := by rw [← h]
 have := symGo_dead_fst (s := s) (c := codeT z n) (n := n) 17 .empty σ h0 (by show (symF s (codeT z n) n σ).2.why ≠ 0; rw [e2]; exact hy)
 have e3 : (symF s (codeT z n) n σ).1 = -1 := this
 omega
section
variable {B : Nat} {w wr w2 : World} {gx : Nat} {s : ByteArray} {vt : Value} {fx : Ex} {z : Nat → Int} {g gs gl many : Nat} {A : Array Value} {sy : Nat → Nat} {f : Nat} {L : List Int} {σ : St} {goal : List Int × St}
theorem LnR.fuel1 (h : LnR B w wr gx s vt fx z g gs gl many A sy f L σ goal) : ∃ f', f = f' + 1 := ⟨f - 1, by have := h.few; have := h.fuel; omega⟩
/-- Something stopped the reading of a step. -/
theorem LnR.fail (h : LnR B w wr gx s vt fx z g gs gl many A sy f L σ goal) (hl : L.length < many) {N : Nat} {v : Int} {σ' : St} (hk : lenStep s L (symF s (codeT z 19) 19 σ) = (false, N, v, σ'))
 (h2 : Rd B w2 gx s σ' vt fx) (k2 : Kp w w2 gx vt) (hy : σ'.why ≠ 0) : LnPost B w gx s vt fx many goal (endOf σ'.why .nilFunc) w2 := by
 obtain ⟨f', rfl⟩ := h.fuel1
 have e : goal.2 = σ' := by rw [← h.eq, lenGo_next hl h.why hk]; exact lenGo_dead hy _
 exact ⟨by rw [e]; exact h2, k2, Or.inr ⟨by rw [e]; exact hy, by rw [e]⟩⟩
theorem LnR.nothing (h : LnR B w wr gx s vt fx z g gs gl many A sy f L σ goal) (hl : L.length < many) {σ' : St} (hk : lenStep s L (symF s (codeT z 19) 19 σ) = (true, 0, 0, stopF σ' 1)) (hy : σ'.why = 0)
 (h2 : Rd B w2 gx s σ' vt fx) (k2 : Kp w w2 gx vt) : LnPost B w gx s vt fx many goal (endOf 1 .nilFunc) w2 := by
 obtain ⟨f', rfl⟩ := h.fuel1
 have e : goal.2 = { σ' with why := 1 } := by rw [← h.eq, lenGo_nothing hl h.why hk, stopF_alive hy]
 exact ⟨by rw [e]; exact h2.congr rfl rfl, k2, Or.inr ⟨by rw [e]; show (1 : Nat) ≠ 0; omega, by rw [e]⟩⟩
theorem LnR.over (h : LnR B w wr gx s vt fx z g gs gl many A sy f L σ goal) (hl : L.length < many) {N : Nat} {v : Int} {σ' : St} (hk : lenStep s L (symF s (codeT z 19) 19 σ) = (false, N, v, σ'))
 (h2 : Rd B w2 gx s σ' vt fx) (k2 : Kp w w2 gx vt) (hy : σ'.why = 0) (hN : many < L.length + N) : LnPost B w gx s vt fx many goal (endOf 1 .nilFunc) w2 := by
 obtain ⟨f', rfl⟩ := h.fuel1
 have hf := h.fuel
 obtain ⟨f2, rfl⟩ : ∃ f2, f' = f2 + 1 := ⟨f' - 1, by omega⟩
 have e : goal.2 = { σ' with why := 1 } := by
  rw [← h.eq, lenGo_next hl h.why hk, lenGo_over (by rw [List.length_append, List.length_replicate]; exact hN), stopF_alive hy]
 exact ⟨by rw [e]; exact h2.congr rfl rfl, k2, Or.inr ⟨by rw [e]; show (1 : Nat) ≠ 0; omega, by rw [e]⟩⟩
theorem LnR.more (h : LnR B w wr gx s vt fx z g gs gl many A sy f L σ goal) (hl : L.length < many) {N : Nat} {v : Int} {σ' : St} (hk : lenStep s L (symF s (codeT z 19) 19 σ) = (false, N, v, σ')) (hf : Fit s σ') (h1 : 1 ≤ N) (hv : 0 ≤ v ∧ v ≤ 15)
 (h2 : Rd B w2 gx s σ' vt fx) (k2 : Kp w w2 gx vt) (hy : σ'.why = 0) (hN : ¬ many < L.length + N) (hset : SetIn w2 z 19 g sy) (hbox : w2.heap[gs]? = some (.cells A 185 (0, 0)))
 (hown : w2.ownsRow w.heap.size 3 1 (.slice (some ⟨gl, 0, none⟩) (L.length + N) many) (L.length + N) (intsL L ++ List.replicate N (.int .i64 v))) :
 LnR B w w2 gx s vt fx z g gs gl many A sy (f - 1) (L ++ List.replicate N v) σ' goal := by
 obtain ⟨f', rfl⟩ := h.fuel1
 have hfu := h.fuel
 have el : (L ++ List.replicate N v).length = L.length + N := by rw [List.length_append, List.length_replicate]
 refine ⟨h2, k2, hf, hy, hset, hbox, by rw [el, ← intsL_append]; exact hown, by omega, by rw [el]; omega, rng_append h.rng hv, ?_⟩
 rw [← h.eq, lenGo_next hl h.why hk]
 rfl
theorem LnR.done (h : LnR B w wr gx s vt fx z g gs gl many A sy f L σ goal) (hl : L.length = many) : LnPost B w gx s vt fx many goal (.returned (.slice (some ⟨gl, 0, none⟩) many many)) wr := by
 obtain ⟨f', rfl⟩ := h.fuel1
 have e : goal = (L, σ) := by rw [← h.eq, lenGo_end hl]
 have hg := h.own.lt gl rfl
 refine ⟨by rw [e]; exact h.rd, h.kp, Or.inl ⟨by rw [e]; exact h.why, gl, rfl, ⟨fun i hi => ?_, hg.2⟩, hg.1, by rw [e]; exact hl, by rw [e]; exact h.rng⟩⟩
 have c := h.own.cellAt i (by omega)
 rw [Nat.zero_add, c, e, intsL_at L i (by omega)]
end
/- The program's lengths, walked. -/
theorem _root_.Go.World.ownsRow.kp' {w w' : World} {B n g cap : Nat} {xs : List Value} {e : TypeId} (h : w.ownsRow B e 1 (.slice (some ⟨g, 0, none⟩) n cap) n xs) (hb : w'.heap[g]? = w.heap[g]?) : w'.ownsRow B e 1 (.slice (some ⟨g, 0, none⟩) n cap) n xs := by
 obtain ⟨q1, q2⟩ := h
 refine ⟨q1, ?_⟩
 rcases q2 with ⟨q2, _⟩ | ⟨g', cap', cur, hv, hbb, hh, r⟩
 · exact absurd q2 (by simp)
 ·
  have e1 : g = g' := by simp at hv; exact hv.1
  subst e1
  exact Or.inr ⟨g, cap', cur, hv, hbb, hb.trans hh, r⟩
set_option maxRecDepth 4000 in
set_option maxHeartbeats 2000000 in
theorem glengths_any (B gx g many : Nat) (s : ByteArray) (σ : St) (vt : Value) (fx : Ex) (z : Nat → Int) (sy : Nat → Nat) (w : World) (h : Rd B w gx s σ vt fx) (hs : s.size ≤ 140737488400000) (hf : Fit s σ) (hy : σ.why = 0)
 (hset : SetIn w z 19 g sy) (hgx : g ≠ gx) (hvg : vt.ownBlock ≠ some g) (hmany : many ≤ 700) :
 Calls Tryz.prog 149 #[.pointer (some ⟨gx, 0, none⟩), setV z 19 g, .int .i64 (many : Int)] w (LnPost B w gx s vt fx many (lenGo s (codeT z 19) many (many + 1) [] σ)) := by
 obtain ⟨i0, hi0, hz0, hs0, hby⟩ := info_parts Tryz.info3
 obtain ⟨A, hA⟩ : ∃ A, A = setA (cntN z 19) (.slice (some ⟨g, 0, none⟩) (pas (cntN z 19) 15) (pas (cntN z 19) 15)) := ⟨_, rfl⟩
 have hsv : setV z 19 g = .agg A := by rw [hA]; rfl
 have hAs : (Tryz.prog.info? 185).map (·.size) = some A.size := by rw [hA]; exact Tryz.size185
 have hSy := fun (σ : St) w' h hf hy hset => gsymbol_any B gx g 19 s σ vt fx z sy w' h hs hf hy hset hgx hvg
 rw [hsv] at hSy ⊢
 have HSy : Hid (_) := hSy
 clear hSy hsv hA
 have hgl := h.row.lt
 have hgg := hset.row.lt
 have hvn : ∀ g, vt.ownBlock = some g → g < w.heap.size := fun g e => (h.own.lt g e).2
 have hbx : (w.alloc (.cells A 185)).heap[w.heap.size]? = some (.cells A 185 (0, 0)) := heap_alloc_last w (.cells A 185)
 have hfst := fun σ1 => symF_fst (c := codeT z 19) (n := 19) (codeT_size hset.tidy) σ1 (s := s)
 have HFS : Hid (_) := hfst
 obtain ⟨goal, hgoal⟩ : ∃ goal, goal = lenGo s (codeT z 19) many (many + 1) [] σ := ⟨_, rfl⟩
 rw [← hgoal]
 have HG : Hid (_) := hgoal
 clear hgoal hfst
 go_enter Tryz.func149, Tryz.ntmps149
 go_wp2_with (first | (at_make; refine wpList_make_own (w.alloc (.cells A 185)) rfl (.const (.int .i64 0)) (.tmp 10) 61 rfl w.heap.size 3 i0 (.int .i64 0) 1 Tryz.underlying61 hi0 hz0 hs0 .i64 .i64 (many : Int) many rfl rfl rfl (by rw [hby]; omega) (by unfold maxLen; omega) (by simp) ?_) | fail)
 intro w1 ho1 hg1
 have e1 : (w.alloc (.cells A 185)).heap.size = w.heap.size + 1 := by simp
 have hb1 : Below (w.alloc (.cells A 185)).heap.size (w.alloc (.cells A 185)) w1 := ⟨hg1.os, hg1.tape, hg1.output, hg1.size, fun b hb => hg1.block b hb (by simp)⟩
 first | rw [e1] at ho1 | skip
 obtain ⟨gs, hgs⟩ : ∃ gs, gs = w.heap.size := ⟨_, rfl⟩
 obtain ⟨gl, hgll⟩ : ∃ gl, gl = w.heap.size + 1 := ⟨_, rfl⟩
 have hKa : Kp w (w.alloc (.cells A 185)) gx vt := Kp.alloc w _ gx vt
 have hK1 := hKa.trans (Kp.below hb1 gx vt)
 have h1 := (h.alloc (.cells A 185)).kp' (Kp.below hb1 gx vt) hb1
 have set1 := (hset.kp hKa hgx hvg).kp (Kp.below hb1 gx vt) hgx hvg
 have box1 : w1.heap[gs]? = some (.cells A 185 (0, 0)) := by rw [hgs]; exact (hb1.block _ (by simp)).trans hbx
 have hs1 := hb1.size
 have hgsx : gs ≠ gx := by omega
 have hglx : gl ≠ gx := by omega
 have hgsl : gl ≠ gs := by omega
 have hggl : gl ≠ g := by omega
 have hvs : vt.ownBlock ≠ some gs := fun e => by have := hvn _ e; omega
 have hvl : vt.ownBlock ≠ some gl := fun e => by have := hvn _ e; omega
 have hwl : w.heap.size ≤ gl := by omega
 have hgs1 : gs < w1.heap.size := by omega
 have R0 : LnR B w w1 gx s vt fx z g gs gl many A sy (many + 1) [] σ goal := ⟨h1, hK1, hf, hy, set1, box1, by rw [hgll]; exact ho1, by simp, by simp, by simp, HG.out.symm⟩
 rw [← hgll, ← hgs]
 clear HG ho1 hg1 hb1 hK1 hKa h1 set1 box1 hbx hf hy h hset hvn hgs hgll e1 hs1 hgl hgg
 go_wp2_with fail
 go_loopw [7, 8, 9] (fun v _ _ wr => ∃ (f : Nat) (L : List Int) (σ1 : St), v = .slice (some ⟨gl, 0, none⟩) L.length many ∧ gs < wr.heap.size ∧ LnR B w wr gx s vt fx z g gs gl many A sy f L σ1 goal) (fun v _ _ _ => match v with | .slice _ n _ => many - n | _ => 0)
 case atStart => exact ⟨many + 1, [], σ, rfl, hgs1, R0⟩
 case round =>
  obtain ⟨f, L, σ1, rfl, hgsr, hrel⟩ := hrel
  clear R0 hgs1
  have hfew := hrel.few
  obtain ⟨T, hT⟩ : ∃ T, T = L.length := ⟨_, rfl⟩
  have HT : Hid (T = L.length) := hT
  by_cases hlt : L.length < many
  ·
   rw [← hT]
   have hTm : T < many := by omega
   have hTI : (T : Int) < (many : Int) := by omega
   have hbox := hrel.box
   have HC : Hid (_) := HSy.out σ1 wr hrel.rd hrel.fit hrel.why hrel.set
   have hfs := HFS.out σ1
   have f2 : Fit s (symF s (codeT z 19) 19 σ1).2 := hrel.fit.symF
   clear hT
   go_wp2_with (first | (refine wpList_load_row rfl 185 (.tmp 4) rfl gs rfl 185 A (0, 0) _ hbox Tryz.underlying185 rfl hAs ?_) | fail)
   refine Calls.mono HC.out ?_
   rintro e w2 ⟨he, h2, k2⟩
   have K2 := hrel.kp.trans k2
   have set2 := hrel.set.kp k2 hgx hvg
   have box2 := (k2.block gs hgsr hgsx hvs).trans hbox
   have hglr := (hrel.own.lt gl rfl).2
   have own2 := hrel.own.kp' (k2.block gl hglr hglx hvl)
   have hgs2 := Nat.lt_of_lt_of_le hgsr k2.size
   have hgl2 := Nat.lt_of_lt_of_le hglr k2.size
   obtain ⟨q, hq⟩ : ∃ q, q = symF s (codeT z 19) 19 σ1 := ⟨_, rfl⟩
   rw [← hq] at he h2 hfs f2
   have HQ : Hid (_) := hq
   clear hq HC k2 hbox
   obtain ⟨kk, σ2⟩ := q
   simp only at he h2 hfs f2
   by_cases hy2 : σ2.why = 0
   ·
    rw [endOf_ok hy2] at he; subst he
    obtain ⟨k', hk', rfl⟩ := hfs hy2
    have HQ0 : Hid (lenStep s L (symF s (codeT z 19) 19 σ1) = lenStep s L ((k' : Int), σ2)) := by show _ = _; rw [← HQ.out]
    clear hfs HQ
    rcases (by omega : k' < 16 ∨ k' = 16 ∨ k' = 17 ∨ k' = 18) with hc | hc | hc | hc
    ·
     have e16 : ((k' : Int) == 16) = false := by rw [beq_eq_false_iff_ne]; omega
     have e17 : ((k' : Int) == 17) = false := by rw [beq_eq_false_iff_ne]; omega
     have e18 : ((k' : Int) == 18) = false := by rw [beq_eq_false_iff_ne]; omega
     obtain ⟨v, hv0⟩ : ∃ v : Int, v = (k' : Int) := ⟨_, rfl⟩
     obtain ⟨N, hN0⟩ : ∃ N : Nat, N = 1 := ⟨_, rfl⟩
     have HK : Hid (lenStep s L (symF s (codeT z 19) 19 σ1) = (false, N, v, σ2)) := by show _ = _; rw [HQ0.out, lenStep_one' _ _ _ _ (by omega), hv0, hN0]
     have hN1 : 1 ≤ N := by omega
     have hNb : N ≤ 200 := by omega
     have hv : 0 ≤ v ∧ v ≤ 15 := by omega
     have h3 := h2
     have K3 := K2
     have set3 := set2
     have box3 := box2
     have own3 := own2
     have hgs3 := hgs2
     have f3 := f2
     have hy3 := hy2
     have hNI : (1 : Int) = (N : Int) := by omega
     clear HQ0 h2 K2 set2 box2 own2 f2 hy2
     go_upto_region 13 with fail
     rw [← hv0, hNI]
     clear hNI hN0 hv0 e16 e17 e18 hc
     by_cases hN : many < L.length + N
     ·
      have P := hrel.over hlt HK.out h3 K3 hy3 hN
      have dN : decide ((many : Int) - (T : Int) < (N : Int)) = true := by rw [decide_eq_true_iff]; have := HT.out; omega
      clear own3 set3 box3 hrel h3 K3
      go_wp2_with fail
      refine (wrong_any _).mono ?_
      rintro e w9 ⟨rfl, rfl⟩
      rw [endOf_bad (by omega)]
      rw [endOf_bad (by omega)] at P
      go_wp2
      exact ⟨rfl, P⟩
     ·
      have dN : decide ((many : Int) - (T : Int) < (N : Int)) = false := by rw [decide_eq_false_iff_not]; have := HT.out; omega
      have hTN : T + N ≤ many := by have := HT.out; omega
      go_wp2_with fail
      refine (times_any N v _ (by omega) hN1).mono ?_
      rintro e w4 ⟨gt, rfl, ot, hb4⟩
      have own4 := ownsRow_below own3 hb4
      have k4 := Kp.below hb4 gx vt
      have h4 := h3.kp' k4 hb4
      have K4 := K3.trans k4
      have set4 := set3.kp k4 hgx hvg
      have box4 := (hb4.block gs hgs3).trans box3
      have hcells : ∀ j u, (List.replicate N (Value.int .i64 v))[j]? = some u → w4.cell? ((⟨gt, 0, none⟩ : Addr).add j) = some u := by
       intro j u hj
       rw [List.getElem?_replicate] at hj
       split at hj
       ·
        rename_i hjN
        rw [addr_add0, ← Option.some.inj hj]
        exact ot.cell hjN
       · simp at hj
      have hone : ∀ u ∈ List.replicate N (Value.int .i64 v), u.oneCell' = true := by
       intro u hu
       rw [List.eq_of_mem_replicate hu]
       rfl
      have HM : Hid (_) := fun (w5 : World) a b c d e => hrel.more (w2 := w5) hlt HK.out f3 hN1 hv a b hy3 hN c d e
      have hgs4 := Nat.lt_of_lt_of_le hgs3 hb4.size
      rw [← HT.out] at own4
      clear own3 set3 box3 hrel h3 K3 hb4 k4 ot
      go_wp2_with (first | (at_builtin; refine wpList_append_fits w4 rfl (.tmp 58) (.tmp 61) 61 rfl w.heap.size 3 i0 1 Tryz.underlying61 hi0 hs0 gl T many _ rfl own4 ⟨gt, 0, none⟩ N N (List.replicate N (.int .i64 v)) rfl (by rw [List.length_replicate]; omega) hcells hone hTN ?_) | fail)
      intro w5 ho5 hg5
      have hsz5 := hg5.size
      have box5 := (hg5.block gs hgs4 (by intro e; exact hgsl (Option.some.inj e).symm)).trans box4
      have set5 : SetIn w5 z 19 g sy := ⟨set4.tidy, set4.many, set4.row.of_block (hg5.block g set4.row.lt (by intro e; exact hggl (Option.some.inj e).symm)), set4.ok⟩
      have h5 := h4.grown hg5 hglx.symm hvl
      have K5 := K4.grown hg5 hwl
      have R := HM.out w5 h5 K5 set5 box5 (by rw [← HT.out]; exact ho5)
      have hgs5 := Nat.lt_of_lt_of_le hgs4 hsz5
      have HL : Hid ((L ++ List.replicate N v).length = T + N) := by show _ = _; rw [List.length_append, List.length_replicate, HT.out]
      clear HM ho5 hg5 box4 set4 h4 K4 own4 box5 set5 h5 K5
      go_wp2
      go_roundw
      case rel => exact ⟨_, _, _, by rw [HL.out], hgs5, R⟩
      case measure => show many - (T + N) < many - T; omega
    ·
     subst hc
     have set3' := set2
     by_cases hL0 : L.length = 0
     ·
      have P := hrel.nothing hlt (HQ0.out.trans (lenStep_16n s L σ2 hL0)) hy2 h2 K2
      have eT : T = 0 := by have := HT.out; omega
      subst eT
      clear own2 set2 box2 hrel h2 K2 set3'
      go_wp2_with fail
      refine (wrong_any _).mono ?_
      rintro e w9 ⟨rfl, rfl⟩
      rw [endOf_bad (by omega)]
      rw [endOf_bad (by omega)] at P
      go_wp2
      exact ⟨rfl, P⟩
     ·
      have eT : ((T : Int) == 0) = false := by rw [beq_eq_false_iff_ne]; have := HT.out; omega
      obtain ⟨j, hj⟩ : ∃ j, j = T - 1 := ⟨_, rfl⟩
      have hT1 : 1 ≤ T := by have := HT.out; omega
      have hjI : (T : Int) - 1 = (j : Int) := by omega
      have hjT : (j : Int) < (T : Int) := by omega
      obtain ⟨v, hv0⟩ : ∃ v : Int, v = L.getD (L.length - 1) 0 := ⟨_, rfl⟩
      have hjL : j = L.length - 1 := by have := HT.out; omega
      have hv : 0 ≤ v ∧ v ≤ 15 := by
       have e : L.getD (L.length - 1) 0 = L[L.length - 1]'(by omega) := by rw [List.getD_eq_getElem?_getD, List.getElem?_eq_getElem (by omega)]; rfl
       rw [hv0, e]
       exact hrel.rng _ (List.getElem_mem _)
      have cv : ∀ wx : World, wx.ownsRow w.heap.size 3 1 (.slice (some ⟨gl, 0, none⟩) L.length many) L.length (intsL L) → wx.cell? ⟨gl, j, none⟩ = some (.int .i64 v) := by
       intro wx hx
       rw [hx.cellAt j (by omega), intsL_at L j (by omega), hjL, ← hv0]
      have cv2 := cv _ own2
      have HCV : Hid (_) := cv
      have HV0 : Hid (_) := hv0
      have hwj : IntKind.i64.wrap (j : Int) = (j : Int) := by rw [IntKind.wrap_i64]; omega
      have hrd2 : Rd B w2.drew gx s σ2 vt fx := h2.drew
      clear cv hv0 hjL hj set3'
      go_wp2_with fail
      refine wp_region_any (by kernel_rfl) ?_
      change wpAny _ _ _ _ _ _ _ (World.drew _)
      refine wpAny_take (i := 0) (v := .slice (some ⟨gl, 0, none⟩) T many) rfl (by kernel_rfl) (by kernel_rfl) (by kernel_rfl) (fun _ _ _ h => h) (Or.inl ⟨by rfl, ?_⟩) ?_
      · intro w; go_simp
      refine wpAny_take (i := 1) (v := .slice (some ⟨gl, 0, none⟩) T many) rfl (by kernel_rfl) (by kernel_rfl) (by kernel_rfl) (fun _ _ _ h => h) (Or.inl ⟨by rfl, ?_⟩) ?_
      · intro w; go_simp
      refine wpAny_take (i := 2) (v := .int .i64 (T : Nat)) rfl (by kernel_rfl) (by kernel_rfl) (by kernel_rfl) (fun _ _ _ h => h) (Or.inl ⟨by rfl, ?_⟩) ?_
      · intro w; go_simp
      refine wpAny_take (i := 3) (v := .int .i64 (j : Nat)) rfl (by kernel_rfl) (by kernel_rfl) (by kernel_rfl) (fun _ _ _ h => h) (Or.inl ⟨by rfl, ?_⟩) ?_
      · intro w; go_simp
      refine wpAny_take (i := 4) (v := .pointer (some ⟨gl, j, none⟩)) rfl (by kernel_rfl) (by kernel_rfl) (by kernel_rfl) (fun _ _ _ h => h) (Or.inl ⟨by rfl, ?_⟩) ?_
      · intro w; go_simp
      refine wpAny_take (i := 6) (v := .pointer (some ⟨gx, 0, none⟩)) rfl (by kernel_rfl) (by kernel_rfl) (by kernel_rfl) (fun _ _ _ h => h) (Or.inl ⟨by rfl, ?_⟩) ?_
      · intro w; go_simp
      refine wpAny_take (i := 7) (v := .pointer (some ⟨gx, 0, none⟩)) rfl (by kernel_rfl) (by kernel_rfl) (by kernel_rfl) (fun _ _ _ h => h) (Or.inl ⟨by rfl, ?_⟩) ?_
      · intro w; go_simp
      refine wpAny_take (i := 8) (v := .pointer (some ⟨gx, 0, none⟩)) rfl (by kernel_rfl) (by kernel_rfl) (by kernel_rfl) (fun _ _ _ h => h) (Or.inl ⟨by rfl, ?_⟩) ?_
      · intro w; go_simp
      refine wpAny_ready (rs := [5, 9]) (by kernel_rfl) (by simp) ?_
      refine AllReady.cons rfl (fun K hK => ?_) (AllReady.cons rfl (fun K hK => ?_) AllReady.nil)
      ·
       go_simp
       refine hK _ _ ?_
       clear hK K
       refine wpAny_ready (rs := [9]) (by kernel_rfl) (by simp) ?_
       refine AllReady.cons rfl (fun K hK => ?_) AllReady.nil
       go_simp
       go_at_call 122
       refine (gnumber_any B gx 2 s σ2 vt fx _ hrd2 hs f2.pos hy2 (by omega)).mono ?_
       rintro e w3 ⟨he, h3, k3'⟩
       have k3 : Kp w2 w3 gx vt := ⟨k3'.os, k3'.tape, k3'.output, k3'.size, k3'.block⟩
       have HK0 : Hid (_) := HQ0.out.trans (lenStep_16 s L σ2 hL0)
       have K3 := K2.trans k3
       have set3 := set2.kp k3 hgx hvg
       have box3 := (k3.block gs hgs2 hgsx hvs).trans box2
       have own3 := own2.kp' (k3.block gl hgl2 hglx hvl)
       have hgs3 := Nat.lt_of_lt_of_le hgs2 k3.size
       have f3 := f2.num 2
       have nb := numF_ltK s 2 4 σ2 rfl
       generalize numF s 2 σ2 = q at he h3 HK0 f3 nb
       obtain ⟨a, σ3⟩ := q
       simp only at he h3 f3 nb
       obtain ⟨N, hNN⟩ : ∃ N, N = a + 3 := ⟨_, rfl⟩
       have HK : Hid (lenStep s L (symF s (codeT z 19) 19 σ1) = (false, N, v, σ3)) := by show _ = _; rw [hNN, HV0.out]; exact HK0.out
       have hNI : (3 : Int) + (a : Int) = (N : Int) := by omega
       have hN1 : 1 ≤ N := by omega
       have hNb : N ≤ 200 := by omega
       have hwN : IntKind.i64.wrap (N : Int) = (N : Int) := by rw [IntKind.wrap_i64]; omega
       clear HK0 hNN set2 box2 own2 k3 K2 h2 f2
       have cv3 := HCV.out _ own3
       clear k3' hrd2
       by_cases hy3 : σ3.why = 0
       ·
        rw [endOf_ok hy3] at he; subst he
        go_simp
        first | (refine hK _ _ ?_; clear hK K) | skip
        refine wpAny_take (i := 10) (v := .int .i64 (N : Nat)) rfl (by kernel_rfl) (by kernel_rfl) (by kernel_rfl) (fun _ _ _ h => h) (Or.inl ⟨by rfl, ?_⟩) ?_
        · intro w; go_simp
        refine wpAny_ready (rs := [11]) (by kernel_rfl) (by simp) ?_
        refine AllReady.cons rfl (fun K hK => ?_) AllReady.nil
        go_simp
        refine hK _ _ ?_
        clear hK K
        refine wpAny_ready (rs := [12]) (by kernel_rfl) (by simp) ?_
        refine AllReady.cons rfl (fun K hK => ?_) AllReady.nil
        go_simp
        refine hK _ _ ?_
        clear hK K
        refine wpAny_done (by kernel_rfl) ?_ _
        go_upto_region 13 with fail
        clear hNI hwj hjI hjT HCV cv3
        by_cases hN : many < L.length + N
        ·
         have P := hrel.over hlt HK.out h3 K3 hy3 hN
         have dN : decide ((many : Int) - (T : Int) < (N : Int)) = true := by rw [decide_eq_true_iff]; have := HT.out; omega
         clear own3 set3 box3 hrel h3 K3
         go_wp2_with fail
         refine (wrong_any _).mono ?_
         rintro e w9 ⟨rfl, rfl⟩
         rw [endOf_bad (by omega)]
         rw [endOf_bad (by omega)] at P
         go_wp2
         exact ⟨rfl, P⟩
        ·
         have dN : decide ((many : Int) - (T : Int) < (N : Int)) = false := by rw [decide_eq_false_iff_not]; have := HT.out; omega
         have hTN : T + N ≤ many := by have := HT.out; omega
         go_wp2_with fail
         refine (times_any N v _ (by omega) hN1).mono ?_
         rintro e w4 ⟨gt, rfl, ot, hb4⟩
         have own4 := ownsRow_below own3 hb4
         have k4 := Kp.below hb4 gx vt
         have h4 := h3.kp' k4 hb4
         have K4 := K3.trans k4
         have set4 := set3.kp k4 hgx hvg
         have box4 := (hb4.block gs hgs3).trans box3
         have hcells : ∀ j u, (List.replicate N (Value.int .i64 v))[j]? = some u → w4.cell? ((⟨gt, 0, none⟩ : Addr).add j) = some u := by
          intro j u hj
          rw [List.getElem?_replicate] at hj
          split at hj
          ·
           rename_i hjN
           rw [addr_add0, ← Option.some.inj hj]
           exact ot.cell hjN
          · simp at hj
         have hone : ∀ u ∈ List.replicate N (Value.int .i64 v), u.oneCell' = true := by
          intro u hu
          rw [List.eq_of_mem_replicate hu]
          rfl
         have HM : Hid (_) := fun (w5 : World) a b c d e => hrel.more (w2 := w5) hlt HK.out f3 hN1 hv a b hy3 hN c d e
         have hgs4 := Nat.lt_of_lt_of_le hgs3 hb4.size
         rw [← HT.out] at own4
         clear own3 set3 box3 hrel h3 K3 hb4 k4 ot
         go_wp2_with (first | (at_builtin; refine wpList_append_fits w4 rfl (.tmp 58) (.tmp 61) 61 rfl w.heap.size 3 i0 1 Tryz.underlying61 hi0 hs0 gl T many _ rfl own4 ⟨gt, 0, none⟩ N N (List.replicate N (.int .i64 v)) rfl (by rw [List.length_replicate]; omega) hcells hone hTN ?_) | fail)
         intro w5 ho5 hg5
         have hsz5 := hg5.size
         have box5 := (hg5.block gs hgs4 (by intro e; exact hgsl (Option.some.inj e).symm)).trans box4
         have set5 : SetIn w5 z 19 g sy := ⟨set4.tidy, set4.many, set4.row.of_block (hg5.block g set4.row.lt (by intro e; exact hggl (Option.some.inj e).symm)), set4.ok⟩
         have h5 := h4.grown hg5 hglx.symm hvl
         have K5 := K4.grown hg5 hwl
         have R := HM.out w5 h5 K5 set5 box5 (by rw [← HT.out]; exact ho5)
         have hgs5 := Nat.lt_of_lt_of_le hgs4 hsz5
         have HL : Hid ((L ++ List.replicate N v).length = T + N) := by show _ = _; rw [List.length_append, List.length_replicate, HT.out]
         clear HM ho5 hg5 box4 set4 h4 K4 own4 box5 set5 h5 K5
         go_wp2
         go_roundw
         case rel => exact ⟨_, _, _, by rw [HL.out], hgs5, R⟩
         case measure => show many - (T + N) < many - T; omega
       ·
        rw [endOf_bad hy3] at he; subst he
        have P := hrel.fail hlt HK.out h3 K3 hy3
        rw [endOf_bad hy3] at P
        clear own3 set3 box3 hrel h3 K3 hK
        go_wp2
        exact ⟨rfl, P⟩
      ·
       go_simp
       go_at_call 122
       refine (gnumber_any B gx 2 s σ2 vt fx _ hrd2 hs f2.pos hy2 (by omega)).mono ?_
       rintro e w3 ⟨he, h3, k3'⟩
       have k3 : Kp w2 w3 gx vt := ⟨k3'.os, k3'.tape, k3'.output, k3'.size, k3'.block⟩
       have HK0 : Hid (_) := HQ0.out.trans (lenStep_16 s L σ2 hL0)
       have K3 := K2.trans k3
       have set3 := set2.kp k3 hgx hvg
       have box3 := (k3.block gs hgs2 hgsx hvs).trans box2
       have own3 := own2.kp' (k3.block gl hgl2 hglx hvl)
       have hgs3 := Nat.lt_of_lt_of_le hgs2 k3.size
       have f3 := f2.num 2
       have nb := numF_ltK s 2 4 σ2 rfl
       generalize numF s 2 σ2 = q at he h3 HK0 f3 nb
       obtain ⟨a, σ3⟩ := q
       simp only at he h3 f3 nb
       obtain ⟨N, hNN⟩ : ∃ N, N = a + 3 := ⟨_, rfl⟩
       have HK : Hid (lenStep s L (symF s (codeT z 19) 19 σ1) = (false, N, v, σ3)) := by show _ = _; rw [hNN, HV0.out]; exact HK0.out
       have hNI : (3 : Int) + (a : Int) = (N : Int) := by omega
       have hN1 : 1 ≤ N := by omega
       have hNb : N ≤ 200 := by omega
       have hwN : IntKind.i64.wrap (N : Int) = (N : Int) := by rw [IntKind.wrap_i64]; omega
       clear HK0 hNN set2 box2 own2 k3 K2 h2 f2
       have cv3 := HCV.out _ own3
       clear k3' hrd2
       by_cases hy3 : σ3.why = 0
       ·
        rw [endOf_ok hy3] at he; subst he
        go_simp
        first | (refine hK _ _ ?_; clear hK K) | skip
        refine wpAny_take (i := 10) (v := .int .i64 (N : Nat)) rfl (by kernel_rfl) (by kernel_rfl) (by kernel_rfl) (fun _ _ _ h => h) (Or.inl ⟨by rfl, ?_⟩) ?_
        · intro w; go_simp
        refine wpAny_ready (rs := [5]) (by kernel_rfl) (by simp) ?_
        refine AllReady.cons rfl (fun K hK => ?_) AllReady.nil
        go_simp
        refine hK _ _ ?_
        clear hK K
        refine wpAny_ready (rs := [11]) (by kernel_rfl) (by simp) ?_
        refine AllReady.cons rfl (fun K hK => ?_) AllReady.nil
        go_simp
        refine hK _ _ ?_
        clear hK K
        refine wpAny_ready (rs := [12]) (by kernel_rfl) (by simp) ?_
        refine AllReady.cons rfl (fun K hK => ?_) AllReady.nil
        go_simp
        refine hK _ _ ?_
        clear hK K
        refine wpAny_done (by kernel_rfl) ?_ _
        go_upto_region 13 with fail
        clear hNI hwj hjI hjT HCV cv3
        by_cases hN : many < L.length + N
        ·
         have P := hrel.over hlt HK.out h3 K3 hy3 hN
         have dN : decide ((many : Int) - (T : Int) < (N : Int)) = true := by rw [decide_eq_true_iff]; have := HT.out; omega
         clear own3 set3 box3 hrel h3 K3
         go_wp2_with fail
         refine (wrong_any _).mono ?_
         rintro e w9 ⟨rfl, rfl⟩
         rw [endOf_bad (by omega)]
         rw [endOf_bad (by omega)] at P
         go_wp2
         exact ⟨rfl, P⟩
        ·
         have dN : decide ((many : Int) - (T : Int) < (N : Int)) = false := by rw [decide_eq_false_iff_not]; have := HT.out; omega
         have hTN : T + N ≤ many := by have := HT.out; omega
         go_wp2_with fail
         refine (times_any N v _ (by omega) hN1).mono ?_
         rintro e w4 ⟨gt, rfl, ot, hb4⟩
         have own4 := ownsRow_below own3 hb4
         have k4 := Kp.below hb4 gx vt
         have h4 := h3.kp' k4 hb4
         have K4 := K3.trans k4
         have set4 := set3.kp k4 hgx hvg
         have box4 := (hb4.block gs hgs3).trans box3
         have hcells : ∀ j u, (List.replicate N (Value.int .i64 v))[j]? = some u → w4.cell? ((⟨gt, 0, none⟩ : Addr).add j) = some u := by
          intro j u hj
          rw [List.getElem?_replicate] at hj
          split at hj
          ·
           rename_i hjN
           rw [addr_add0, ← Option.some.inj hj]
           exact ot.cell hjN
          · simp at hj
         have hone : ∀ u ∈ List.replicate N (Value.int .i64 v), u.oneCell' = true := by
          intro u hu
          rw [List.eq_of_mem_replicate hu]
          rfl
         have HM : Hid (_) := fun (w5 : World) a b c d e => hrel.more (w2 := w5) hlt HK.out f3 hN1 hv a b hy3 hN c d e
         have hgs4 := Nat.lt_of_lt_of_le hgs3 hb4.size
         rw [← HT.out] at own4
         clear own3 set3 box3 hrel h3 K3 hb4 k4 ot
         go_wp2_with (first | (at_builtin; refine wpList_append_fits w4 rfl (.tmp 58) (.tmp 61) 61 rfl w.heap.size 3 i0 1 Tryz.underlying61 hi0 hs0 gl T many _ rfl own4 ⟨gt, 0, none⟩ N N (List.replicate N (.int .i64 v)) rfl (by rw [List.length_replicate]; omega) hcells hone hTN ?_) | fail)
         intro w5 ho5 hg5
         have hsz5 := hg5.size
         have box5 := (hg5.block gs hgs4 (by intro e; exact hgsl (Option.some.inj e).symm)).trans box4
         have set5 : SetIn w5 z 19 g sy := ⟨set4.tidy, set4.many, set4.row.of_block (hg5.block g set4.row.lt (by intro e; exact hggl (Option.some.inj e).symm)), set4.ok⟩
         have h5 := h4.grown hg5 hglx.symm hvl
         have K5 := K4.grown hg5 hwl
         have R := HM.out w5 h5 K5 set5 box5 (by rw [← HT.out]; exact ho5)
         have hgs5 := Nat.lt_of_lt_of_le hgs4 hsz5
         have HL : Hid ((L ++ List.replicate N v).length = T + N) := by show _ = _; rw [List.length_append, List.length_replicate, HT.out]
         clear HM ho5 hg5 box4 set4 h4 K4 own4 box5 set5 h5 K5
         go_wp2
         go_roundw
         case rel => exact ⟨_, _, _, by rw [HL.out], hgs5, R⟩
         case measure => show many - (T + N) < many - T; omega
       ·
        rw [endOf_bad hy3] at he; subst he
        have P := hrel.fail hlt HK.out h3 K3 hy3
        rw [endOf_bad hy3] at P
        clear own3 set3 box3 hrel h3 K3 hK
        go_wp2
        exact ⟨rfl, P⟩
    ·
     subst hc
     go_wp2_with fail
     refine (gnumber_any B gx 3 s σ2 vt fx _ h2 hs f2.pos hy2 (by omega)).mono ?_
     rintro e w3 ⟨he, h3, k3⟩
     obtain ⟨v, hv0⟩ : ∃ v : Int, v = 0 := ⟨_, rfl⟩
     have HV0 : Hid (_) := hv0
     have HK0 : Hid (_) := HQ0.out.trans (lenStep_17 s L σ2)
     have K3 := K2.trans k3
     have set3 := set2.kp k3 hgx hvg
     have box3 := (k3.block gs hgs2 hgsx hvs).trans box2
     have own3 := own2.kp' (k3.block gl hgl2 hglx hvl)
     have hgs3 := Nat.lt_of_lt_of_le hgs2 k3.size
     have f3 := f2.num 3
     have nb := numF_ltK s 3 8 σ2 rfl
     generalize numF s 3 σ2 = q at he h3 HK0 f3 nb
     obtain ⟨a, σ3⟩ := q
     simp only at he h3 f3 nb
     obtain ⟨N, hNN⟩ : ∃ N, N = a + 3 := ⟨_, rfl⟩
     have HK : Hid (lenStep s L (symF s (codeT z 19) 19 σ1) = (false, N, v, σ3)) := by show _ = _; rw [hNN, HV0.out]; exact HK0.out
     have hNI : (3 : Int) + (a : Int) = (N : Int) := by omega
     have hN1 : 1 ≤ N := by omega
     have hNb : N ≤ 200 := by omega
     have hwN : IntKind.i64.wrap (N : Int) = (N : Int) := by rw [IntKind.wrap_i64]; omega
     clear HK0 hNN set2 box2 own2 k3 K2 h2 f2
     have hv : 0 ≤ v ∧ v ≤ 15 := by omega
     by_cases hy3 : σ3.why = 0
     ·
      rw [endOf_ok hy3] at he; subst he
      clear hv0
      go_upto_region 13 with fail
      rw [← HV0.out]
      clear hNI
      by_cases hN : many < L.length + N
      ·
       have P := hrel.over hlt HK.out h3 K3 hy3 hN
       have dN : decide ((many : Int) - (T : Int) < (N : Int)) = true := by rw [decide_eq_true_iff]; have := HT.out; omega
       clear own3 set3 box3 hrel h3 K3
       go_wp2_with fail
       refine (wrong_any _).mono ?_
       rintro e w9 ⟨rfl, rfl⟩
       rw [endOf_bad (by omega)]
       rw [endOf_bad (by omega)] at P
       go_wp2
       exact ⟨rfl, P⟩
      ·
       have dN : decide ((many : Int) - (T : Int) < (N : Int)) = false := by rw [decide_eq_false_iff_not]; have := HT.out; omega
       have hTN : T + N ≤ many := by have := HT.out; omega
       go_wp2_with fail
       refine (times_any N v _ (by omega) hN1).mono ?_
       rintro e w4 ⟨gt, rfl, ot, hb4⟩
       have own4 := ownsRow_below own3 hb4
       have k4 := Kp.below hb4 gx vt
       have h4 := h3.kp' k4 hb4
       have K4 := K3.trans k4
       have set4 := set3.kp k4 hgx hvg
       have box4 := (hb4.block gs hgs3).trans box3
       have hcells : ∀ j u, (List.replicate N (Value.int .i64 v))[j]? = some u → w4.cell? ((⟨gt, 0, none⟩ : Addr).add j) = some u := by
        intro j u hj
        rw [List.getElem?_replicate] at hj
        split at hj
        ·
         rename_i hjN
         rw [addr_add0, ← Option.some.inj hj]
         exact ot.cell hjN
        · simp at hj
       have hone : ∀ u ∈ List.replicate N (Value.int .i64 v), u.oneCell' = true := by
        intro u hu
        rw [List.eq_of_mem_replicate hu]
        rfl
       have HM : Hid (_) := fun (w5 : World) a b c d e => hrel.more (w2 := w5) hlt HK.out f3 hN1 hv a b hy3 hN c d e
       have hgs4 := Nat.lt_of_lt_of_le hgs3 hb4.size
       rw [← HT.out] at own4
       clear own3 set3 box3 hrel h3 K3 hb4 k4 ot
       go_wp2_with (first | (at_builtin; refine wpList_append_fits w4 rfl (.tmp 58) (.tmp 61) 61 rfl w.heap.size 3 i0 1 Tryz.underlying61 hi0 hs0 gl T many _ rfl own4 ⟨gt, 0, none⟩ N N (List.replicate N (.int .i64 v)) rfl (by rw [List.length_replicate]; omega) hcells hone hTN ?_) | fail)
       intro w5 ho5 hg5
       have hsz5 := hg5.size
       have box5 := (hg5.block gs hgs4 (by intro e; exact hgsl (Option.some.inj e).symm)).trans box4
       have set5 : SetIn w5 z 19 g sy := ⟨set4.tidy, set4.many, set4.row.of_block (hg5.block g set4.row.lt (by intro e; exact hggl (Option.some.inj e).symm)), set4.ok⟩
       have h5 := h4.grown hg5 hglx.symm hvl
       have K5 := K4.grown hg5 hwl
       have R := HM.out w5 h5 K5 set5 box5 (by rw [← HT.out]; exact ho5)
       have hgs5 := Nat.lt_of_lt_of_le hgs4 hsz5
       have HL : Hid ((L ++ List.replicate N v).length = T + N) := by show _ = _; rw [List.length_append, List.length_replicate, HT.out]
       clear HM ho5 hg5 box4 set4 h4 K4 own4 box5 set5 h5 K5
       go_wp2
       go_roundw
       case rel => exact ⟨_, _, _, by rw [HL.out], hgs5, R⟩
       case measure => show many - (T + N) < many - T; omega
     ·
      rw [endOf_bad hy3] at he; subst he
      have P := hrel.fail hlt HK.out h3 K3 hy3
      rw [endOf_bad hy3] at P
      clear own3 set3 box3 hrel h3 K3
      go_wp2
      exact ⟨rfl, P⟩
    ·
     subst hc
     go_wp2_with fail
     refine (gnumber_any B gx 7 s σ2 vt fx _ h2 hs f2.pos hy2 (by omega)).mono ?_
     rintro e w3 ⟨he, h3, k3⟩
     obtain ⟨v, hv0⟩ : ∃ v : Int, v = 0 := ⟨_, rfl⟩
     have HV0 : Hid (_) := hv0
     have HK0 : Hid (_) := HQ0.out.trans (lenStep_18 s L σ2)
     have K3 := K2.trans k3
     have set3 := set2.kp k3 hgx hvg
     have box3 := (k3.block gs hgs2 hgsx hvs).trans box2
     have own3 := own2.kp' (k3.block gl hgl2 hglx hvl)
     have hgs3 := Nat.lt_of_lt_of_le hgs2 k3.size
     have f3 := f2.num 7
     have nb := numF_ltK s 7 128 σ2 rfl
     generalize numF s 7 σ2 = q at he h3 HK0 f3 nb
     obtain ⟨a, σ3⟩ := q
     simp only at he h3 f3 nb
     obtain ⟨N, hNN⟩ : ∃ N, N = a + 11 := ⟨_, rfl⟩
     have HK : Hid (lenStep s L (symF s (codeT z 19) 19 σ1) = (false, N, v, σ3)) := by show _ = _; rw [hNN, HV0.out]; exact HK0.out
     have hNI : (11 : Int) + (a : Int) = (N : Int) := by omega
     have hN1 : 1 ≤ N := by omega
     have hNb : N ≤ 200 := by omega
     have hwN : IntKind.i64.wrap (N : Int) = (N : Int) := by rw [IntKind.wrap_i64]; omega
     clear HK0 hNN set2 box2 own2 k3 K2 h2 f2
     have hv : 0 ≤ v ∧ v ≤ 15 := by omega
     by_cases hy3 : σ3.why = 0
     ·
      rw [endOf_ok hy3] at he; subst he
      clear hv0
      go_upto_region 13 with fail
      rw [← HV0.out]
      clear hNI
      by_cases hN : many < L.length + N
      ·
       have P := hrel.over hlt HK.out h3 K3 hy3 hN
       have dN : decide ((many : Int) - (T : Int) < (N : Int)) = true := by rw [decide_eq_true_iff]; have := HT.out; omega
       clear own3 set3 box3 hrel h3 K3
       go_wp2_with fail
       refine (wrong_any _).mono ?_
       rintro e w9 ⟨rfl, rfl⟩
       rw [endOf_bad (by omega)]
       rw [endOf_bad (by omega)] at P
       go_wp2
       exact ⟨rfl, P⟩
      ·
       have dN : decide ((many : Int) - (T : Int) < (N : Int)) = false := by rw [decide_eq_false_iff_not]; have := HT.out; omega
       have hTN : T + N ≤ many := by have := HT.out; omega
       go_wp2_with fail
       refine (times_any N v _ (by omega) hN1).mono ?_
       rintro e w4 ⟨gt, rfl, ot, hb4⟩
       have own4 := ownsRow_below own3 hb4
       have k4 := Kp.below hb4 gx vt
       have h4 := h3.kp' k4 hb4
       have K4 := K3.trans k4
       have set4 := set3.kp k4 hgx hvg
       have box4 := (hb4.block gs hgs3).trans box3
       have hcells : ∀ j u, (List.replicate N (Value.int .i64 v))[j]? = some u → w4.cell? ((⟨gt, 0, none⟩ : Addr).add j) = some u := by
        intro j u hj
        rw [List.getElem?_replicate] at hj
        split at hj
        ·
         rename_i hjN
         rw [addr_add0, ← Option.some.inj hj]
         exact ot.cell hjN
        · simp at hj
       have hone : ∀ u ∈ List.replicate N (Value.int .i64 v), u.oneCell' = true := by
        intro u hu
        rw [List.eq_of_mem_replicate hu]
        rfl
       have HM : Hid (_) := fun (w5 : World) a b c d e => hrel.more (w2 := w5) hlt HK.out f3 hN1 hv a b hy3 hN c d e
       have hgs4 := Nat.lt_of_lt_of_le hgs3 hb4.size
       rw [← HT.out] at own4
       clear own3 set3 box3 hrel h3 K3 hb4 k4 ot
       go_wp2_with (first | (at_builtin; refine wpList_append_fits w4 rfl (.tmp 58) (.tmp 61) 61 rfl w.heap.size 3 i0 1 Tryz.underlying61 hi0 hs0 gl T many _ rfl own4 ⟨gt, 0, none⟩ N N (List.replicate N (.int .i64 v)) rfl (by rw [List.length_replicate]; omega) hcells hone hTN ?_) | fail)
       intro w5 ho5 hg5
       have hsz5 := hg5.size
       have box5 := (hg5.block gs hgs4 (by intro e; exact hgsl (Option.some.inj e).symm)).trans box4
       have set5 : SetIn w5 z 19 g sy := ⟨set4.tidy, set4.many, set4.row.of_block (hg5.block g set4.row.lt (by intro e; exact hggl (Option.some.inj e).symm)), set4.ok⟩
       have h5 := h4.grown hg5 hglx.symm hvl
       have K5 := K4.grown hg5 hwl
       have R := HM.out w5 h5 K5 set5 box5 (by rw [← HT.out]; exact ho5)
       have hgs5 := Nat.lt_of_lt_of_le hgs4 hsz5
       have HL : Hid ((L ++ List.replicate N v).length = T + N) := by show _ = _; rw [List.length_append, List.length_replicate, HT.out]
       clear HM ho5 hg5 box4 set4 h4 K4 own4 box5 set5 h5 K5
       go_wp2
       go_roundw
       case rel => exact ⟨_, _, _, by rw [HL.out], hgs5, R⟩
       case measure => show many - (T + N) < many - T; omega
     ·
      rw [endOf_bad hy3] at he; subst he
      have P := hrel.fail hlt HK.out h3 K3 hy3
      rw [endOf_bad hy3] at P
      clear own3 set3 box3 hrel h3 K3
      go_wp2
      exact ⟨rfl, P⟩
   ·
    rw [endOf_bad hy2] at he; subst he
    have hkd : lenStep s L (symF s (codeT z 19) 19 σ1) = (false, 1, kk, σ2) := by
     rw [← HQ.out]
     exact lenStep_one' s L kk σ2 (symF_dead_fst hrel.why HQ.out hy2)
    have P := hrel.fail hlt hkd h2 K2 hy2
    rw [endOf_bad hy2] at P
    clear own2 set2 box2 hrel h2 K2 hkd HQ hfs
    go_wp2
    exact ⟨rfl, P⟩
  ·
   have hTm : L.length = many := by omega
   have P := hrel.done hTm
   rw [hTm]
   clear hrel HT hT hTm hlt hfew
   go_wp2
   go_ret
   exact P
/- Plans in memory; the codes of kind 2: plain facts. -/
/-- A block that no call on the reader touches. -/
structure Far (w : World) (gx : Nat) (vt : Value) (b : Nat) : Prop where
 lt : b < w.heap.size
 nx : b ≠ gx
 nv : vt.ownBlock ≠ some b
theorem Far.kp {w w' : World} {gx : Nat} {vt vt' : Value} {b : Nat} (h : Far w gx vt b) (k : Kp w w' gx vt) (f : ∀ g, vt'.ownBlock = some g → vt.ownBlock = some g ∨ w.heap.size ≤ g) : Far w' gx vt' b :=
 ⟨Nat.lt_of_lt_of_le h.lt k.size, h.nx, fun e => by rcases f b e with e' | e'; exact h.nv e'; have := h.lt; omega⟩
theorem rangeAt_block {w w' : World} {b o : Nat} {cs : List Value} (h : w.rangeAt b o cs) (e : w'.heap[b]? = w.heap[b]?) : w'.rangeAt b o cs := by
 intro j v hv
 have c := h j v hv
 simp only [World.cell?] at c ⊢
 rw [e]; exact c
def setL (z : Nat → Int) (n g : Nat) : Array Value := setA (cntN z n) (.slice (some ⟨g, 0, none⟩) (pas (cntN z n) 15) (pas (cntN z n) 15))
theorem setV_eq (z : Nat → Int) (n g : Nat) : setV z n g = .agg (setL z n g) := rfl
/-- A plan in memory, that no call on the reader touches. -/
structure Plan (w : World) (gx : Nat) (vt : Value) (gp : Nat) (z1 : Nat → Int) (n1 g1 : Nat) (sy1 : Nat → Nat) (z2 : Nat → Int) (n2 g2 : Nat) (sy2 : Nat → Nat) : Prop where
 r1 : w.rangeAt gp 0 (setL z1 n1 g1).toList
 r2 : w.rangeAt gp 17 (setL z2 n2 g2).toList
 s1 : SetIn w z1 n1 g1 sy1
 s2 : SetIn w z2 n2 g2 sy2
 fp : Far w gx vt gp
 f1 : Far w gx vt g1
 f2 : Far w gx vt g2
theorem Plan.kp {w w' : World} {gx : Nat} {vt vt' : Value} {gp n1 g1 n2 g2 : Nat} {z1 z2 : Nat → Int} {sy1 sy2 : Nat → Nat} (h : Plan w gx vt gp z1 n1 g1 sy1 z2 n2 g2 sy2) (k : Kp w w' gx vt) (f : ∀ g, vt'.ownBlock = some g → vt.ownBlock = some g ∨ w.heap.size ≤ g) : Plan w' gx vt' gp z1 n1 g1 sy1 z2 n2 g2 sy2 :=
 ⟨rangeAt_block h.r1 (k.block gp h.fp.lt h.fp.nx h.fp.nv), rangeAt_block h.r2 (k.block gp h.fp.lt h.fp.nx h.fp.nv), h.s1.kp k h.f1.nx h.f1.nv, h.s2.kp k h.f2.nx h.f2.nv, h.fp.kp k f, h.f1.kp k f, h.f2.kp k f⟩
/-- These blocks, and whatever is new. -/
def SN (S : Nat → Prop) (n : Nat) : Nat → Prop := fun b => S b ∨ n ≤ b
theorem SN.low {S : Nat → Prop} {n n' : Nat} (h : n ≤ n') : ∀ b, SN (SN S n) n' b → SN S n b := fun b hb => by
 rcases hb with (hb | hb) | hb
 · exact Or.inl hb
 · exact Or.inr hb
 · exact Or.inr (Nat.le_trans h hb)
/-- A plan in memory, in blocks of some kind. -/
def PlanOk (S : Nat → Prop) (w : World) (gx : Nat) (vt : Value) (gp : Nat) (z1 : Nat → Int) (n1 : Nat) (z2 : Nat → Int) (n2 : Nat) : Prop := ∃ g1 sy1 g2 sy2, Plan w gx vt gp z1 n1 g1 sy1 z2 n2 g2 sy2 ∧ S gp ∧ S g1 ∧ S g2
theorem PlanOk.kp {S : Nat → Prop} {w w' : World} {gx : Nat} {vt vt' : Value} {gp n1 n2 : Nat} {z1 z2 : Nat → Int} (h : PlanOk S w gx vt gp z1 n1 z2 n2) (k : Kp w w' gx vt) (f : ∀ g, vt'.ownBlock = some g → vt.ownBlock = some g ∨ w.heap.size ≤ g) : PlanOk S w' gx vt' gp z1 n1 z2 n2 := by
 obtain ⟨g1, sy1, g2, sy2, h, hS⟩ := h
 exact ⟨g1, sy1, g2, sy2, h.kp k f, hS⟩
theorem PlanOk.mono {S S' : Nat → Prop} {w : World} {gx : Nat} {vt : Value} {gp n1 n2 : Nat} {z1 z2 : Nat → Int} (h : PlanOk S w gx vt gp z1 n1 z2 n2) (hS : ∀ b, S b → S' b) : PlanOk S' w gx vt gp z1 n1 z2 n2 := by
 obtain ⟨g1, sy1, g2, sy2, h, h1, h2, h3⟩ := h
 exact ⟨g1, sy1, g2, sy2, h, hS _ h1, hS _ h2, hS _ h3⟩
theorem built_plan (z1 z2 : Nat → Int) (n1 n2 g1 g2 : Nat) : Tryz.prog.built 187 [(0, .agg (setL z1 n1 g1)), (1, .agg (setL z2 n2 g2))] = some (setL z1 n1 g1 ++ setL z2 n2 g2) := by
 kernel_rfl
theorem range_alloc (w : World) (A1 A2 : Array Value) (h1 : A1.size = 17) (t : TypeId) : (w.alloc (.cells (A1 ++ A2) t)).rangeAt w.heap.size 0 A1.toList ∧ (w.alloc (.cells (A1 ++ A2) t)).rangeAt w.heap.size 17 A2.toList := by
 have hb := heap_alloc_last w (.cells (A1 ++ A2) t)
 refine ⟨fun j v hv => ?_, fun j v hv => ?_⟩
 ·
  rw [cell_of_row _ _ _ _ _ _ hb]
  have hj : j < A1.size := by
   obtain ⟨h, _⟩ := List.getElem?_eq_some_iff.1 hv
   simpa using h
  rw [Nat.zero_add, Array.getElem?_append_left hj]
  simpa using hv
 ·
  rw [cell_of_row _ _ _ _ _ _ hb, Array.getElem?_append_right (by omega), h1, Nat.add_sub_cancel_left]
  simpa using hv
/-- What kind 2 leaves of the stream: behind the lengths' codes. -/
def ownTail (s : ByteArray) (a b : Nat) (q : (Nat → Nat) × St) : St := ownEnd (lensTail s (a + b + 258) q) a b
theorem ownEnd_dead {p : List Int × St} {a b : Nat} (h : p.2.why ≠ 0) : ownEnd p a b = p.2 := by unfold ownEnd; rw [if_neg (fun c => h c.1)]
theorem lensTail_dead {s : ByteArray} {n : Nat} {q : (Nat → Nat) × St} (h : q.2.why ≠ 0) : lensTail s n q = ([], q.2) := by unfold lensTail; rw [if_pos h]
def ownP (s : ByteArray) (hd : Head) : List Int × St :=
 if hd.st.why ≠ 0 then ([], hd.st) else ((lensTail s (hd.a + hd.b + 258) (headGo s (hd.c + 4) 0 (fun _ => 0) hd.st)).1, ownEnd (lensTail s (hd.a + hd.b + 258) (headGo s (hd.c + 4) 0 (fun _ => 0) hd.st)) hd.a hd.b)
theorem ownF_P (s : ByteArray) (σ : St) : ownF s σ = ownP s (headF s σ) := by
 unfold ownF ownP lensF
 generalize headF s σ = hd
 rfl
theorem ownP_tail (s : ByteArray) (hd : Head) : (ownP s hd).2 = ownTail s hd.a hd.b (headGo s (hd.c + 4) 0 (fun _ => 0) hd.st) ∧ (hd.st.why = 0 → (ownP s hd).1 = (lensTail s (hd.a + hd.b + 258) (headGo s (hd.c + 4) 0 (fun _ => 0) hd.st)).1) := by
 by_cases h : hd.st.why ≠ 0
 ·
  have e : ownP s hd = ([], hd.st) := by unfold ownP; rw [if_pos h]
  have e2 := headGo_dead (s := s) (hd.c + 4) 0 (fun _ => 0) h
  refine ⟨?_, fun h0 => absurd h0 h⟩
  rw [e]
  unfold ownTail
  generalize headGo s (hd.c + 4) 0 (fun _ => 0) hd.st = q at e2
  rw [lensTail_dead (by rw [e2]; exact h), ownEnd_dead (by show q.2.why ≠ 0; rw [e2]; exact h)]
  exact e2.symm
 ·
  have e : ownP s hd = ((lensTail s (hd.a + hd.b + 258) (headGo s (hd.c + 4) 0 (fun _ => 0) hd.st)).1, ownEnd (lensTail s (hd.a + hd.b + 258) (headGo s (hd.c + 4) 0 (fun _ => 0) hd.st)) hd.a hd.b) := by unfold ownP; rw [if_neg h]
  rw [e]
  exact ⟨rfl, fun _ => rfl⟩
theorem own_chain {s : ByteArray} {σ σ1 σ2 : St} {a b : Nat} (h1 : numF s 5 σ = (a, σ1)) (h2 : stop29 (a, σ1) = σ1) (h3 : numF s 5 σ1 = (b, σ2)) (h4 : stop29 (b, σ2) = σ2) : headF s σ = ⟨a, b, (numF s 4 σ2).1, (numF s 4 σ2).2⟩ := by
 unfold headF
 rw [h1, h2, h3, h4]
theorem own_dead1 {s : ByteArray} {σ : St} {p : Nat × St} (h1 : numF s 5 σ = p) (h : (stop29 p).why ≠ 0) : (ownF s σ).2 = stop29 p := by
 have e2 := numF_dead (s := s) 5 h
 have e3 : stop29 (numF s 5 (stop29 p)) = stop29 p := by rw [stop29_dead (by rw [e2]; exact h), e2]
 have e4 := numF_dead (s := s) 4 h
 have e : (headF s σ).st = stop29 p := by unfold headF; rw [h1, e3]; exact e4
 rw [ownF_P]
 generalize headF s σ = hd at e
 unfold ownP
 rw [if_pos (by rw [e]; exact h), e]
theorem own_dead2 {s : ByteArray} {σ σ1 : St} {a : Nat} {p : Nat × St} (h1 : numF s 5 σ = (a, σ1)) (h2 : stop29 (a, σ1) = σ1) (h3 : numF s 5 σ1 = p) (h : (stop29 p).why ≠ 0) : (ownF s σ).2 = stop29 p := by
 have e4 := numF_dead (s := s) 4 h
 have e : (headF s σ).st = stop29 p := by unfold headF; rw [h1, h2, h3]; exact e4
 rw [ownF_P]
 generalize headF s σ = hd at e
 unfold ownP
 rw [if_pos (by rw [e]; exact h), e]
/-- Behind the lengths' codes. -/
theorem ownTail_dead {s : ByteArray} {a b : Nat} {q : (Nat → Nat) × St} (h : (lcEnd q).why ≠ 0) : ownTail s a b q = lcEnd q := by
 unfold ownTail
 by_cases hq : q.2.why = 0
 ·
  by_cases hk : ks0 (headZ q.1) 19 = 32768
  ·
   rw [lcEnd_ok hk] at h
   exact absurd hq h
  ·
   have e : lensTail s (a + b + 258) q = ([], stopF q.2 1) := by unfold lensTail; rw [if_neg (by omega), if_pos hk]
   have e2 := stopF_alive hq
   rw [e, ownEnd_dead (by show (stopF q.2 1).why ≠ 0; rw [e2]; show (1 : Nat) ≠ 0; omega), lcEnd_bad hq hk]
   exact e2
 · rw [lensTail_dead hq, ownEnd_dead hq, lcEnd_dead hq]
theorem lensTail_ok {s : ByteArray} {n : Nat} {q : (Nat → Nat) × St} (h : (lcEnd q).why = 0) : lensTail s n q = lenGo s (codeT (headZ q.1) 19) n (n + 1) [] (lcEnd q) := by
 by_cases hq : q.2.why = 0
 ·
  by_cases hk : ks0 (headZ q.1) 19 = 32768
  ·
   rw [lcEnd_ok hk]
   unfold lensTail
   rw [if_neg (by omega), if_neg (by omega)]
  ·
   rw [lcEnd_bad hq hk] at h
   exact absurd h (by show ¬ (1 : Nat) = 0; omega)
 ·
  rw [lcEnd_dead hq] at h
  exact absurd h hq
theorem lcEnd_alive {q : (Nat → Nat) × St} (h : (lcEnd q).why = 0) : q.2.why = 0 := by
 by_cases hq : q.2.why = 0
 · exact hq
 · rw [lcEnd_dead hq] at h; exact h
theorem lenZ_rng' {L : List Int} (h : ∀ y ∈ L, 0 ≤ y ∧ y ≤ 15) (off i : Nat) : 0 ≤ lenZ L off i ∧ lenZ L off i ≤ 15 := by
 unfold lenZ
 rw [List.getD_eq_getElem?_getD]
 cases hh : L[off + i]? with
 | none => show (0 : Int) ≤ 0 ∧ (0 : Int) ≤ 15; omega
 | some x => exact h x (List.mem_of_getElem? hh)
/-- What kind2 answers. -/
def K2Post (B : Nat) (w : World) (gx : Nat) (s : ByteArray) (vt : Value) (fx : Ex) (goal : List Int × St) (hd : Head) (e : Ending) (w' : World) : Prop :=
 Rd B w' gx s goal.2 vt fx ∧ Kp w w' gx vt ∧ ((goal.2.why = 0 ∧ ∃ gp, e = .returned (.pointer (some ⟨gp, 0, none⟩)) ∧ PlanOk (fun b => w.heap.size ≤ b) w' gx vt gp (lenZ goal.1 0) (hd.a + 257) (lenZ goal.1 (hd.a + 257)) (hd.b + 1)) ∨ (goal.2.why ≠ 0 ∧ e = endOf goal.2.why .nilFunc))
theorem K2Post.fail {B : Nat} {w w' : World} {gx : Nat} {s : ByteArray} {vt : Value} {fx : Ex} {goal : List Int × St} {hd : Head} {σ' : St} (e : goal.2 = σ') (h : Rd B w' gx s σ' vt fx) (k : Kp w w' gx vt) (hy : σ'.why ≠ 0) : K2Post B w gx s vt fx goal hd (endOf σ'.why .nilFunc) w' :=
 ⟨by rw [e]; exact h, k, Or.inr ⟨by rw [e]; exact hy, by rw [e]⟩⟩
/- The program's kind2, walked. -/
theorem wpList_build' {P : Program} {ops : Array Oper} {rest : List Oper} {o : Oper} {a : Act} {w : World} {Q : Exit → Act → World → Prop} (hg : o.guard = none) (t : TypeId) (parts : Array (Nat × Operand)) (ho : o.op = .build t parts) (cells : Array Value) (vs : List (Nat × Value))
 (hv : (parts.map fun (i, x) => (i, a.eval x)).toList = vs) (hf : P.built t vs = some cells)
 (h : wpList P ops Q rest (a.put o.dst (.agg cells)) w) : wpList P ops Q (o :: rest) a w :=
 wpList_build hg t parts ho (by rw [hv, hf]; rfl) (by rw [hv, hf]; exact h)
set_option maxRecDepth 4000 in
set_option maxHeartbeats 2000000 in
theorem kind2_any (B gx : Nat) (s : ByteArray) (σ : St) (vt : Value) (fx : Ex) (w : World) (h : Rd B w gx s σ vt fx) (hs : s.size ≤ 140737488400000) (hf : Fit s σ) (hy : σ.why = 0) (hgo : 1 < B) (hord : OrdIn w 1) :
 Calls Tryz.prog 144 #[.pointer (some ⟨gx, 0, none⟩)] w (K2Post B w gx s vt fx (ownF s σ) (headF s σ)) := by
 have hgl := h.row.lt
 have hgB := h.le
 have hvn : ∀ g, vt.ownBlock = some g → B ≤ g ∧ g < w.heap.size := fun g e => h.own.lt g e
 have v0 : vt.ownBlock ≠ some 1 := fun e => by have := hvn _ e; omega
 have ox : 1 ≠ gx := by omega
 have HD1 : Hid (∀ p, numF s 5 σ = p → _ → (ownF s σ).2 = stop29 p) := fun p h1 h2 => own_dead1 h1 h2
 have HD2 : Hid (∀ a σ1 p, numF s 5 σ = (a, σ1) → _ → _ → _ → (ownF s σ).2 = stop29 p) := fun a σ1 p h1 h2 h3 h4 => own_dead2 h1 h2 h3 h4
 have HCH : Hid (∀ a σ1 b σ2, numF s 5 σ = (a, σ1) → _ → _ → _ → headF s σ = ⟨a, b, (numF s 4 σ2).1, (numF s 4 σ2).2⟩) := fun a σ1 b σ2 h1 h2 h3 h4 => own_chain h1 h2 h3 h4
 have HP : Hid (_) := ownF_P s σ
 obtain ⟨hd, hhd⟩ : ∃ hd, hd = headF s σ := ⟨_, rfl⟩
 obtain ⟨goal, hgoal⟩ : ∃ goal, goal = ownF s σ := ⟨_, rfl⟩
 rw [← hgoal] at HD1 HD2 HP ⊢
 rw [← hhd] at HCH HP ⊢
 clear hgoal hhd
 have HT1 : Hid (_) := told_any B gx s σ vt fx w h hs hf.pos hy
 have f1 := hf.num 5
 have nb1 := numF_ltK s 5 32 σ rfl
 obtain ⟨p1, hp1⟩ : ∃ p, p = numF s 5 σ := ⟨_, rfl⟩
 rw [← hp1] at HT1 f1 nb1 HD1 HD2 HCH
 clear h hf hy hp1
 obtain ⟨a, σ1⟩ := p1
 go_enter Tryz.func144, Tryz.ntmps144
 go_wp2_with fail
 refine Calls.mono HT1.out ?_
 rintro e w1 ⟨he, h1, K1⟩
 clear HT1
 by_cases hyA : (stop29 (a, σ1)).why = 0
 ·
  rw [endOf_ok hyA] at he; subst he
  obtain ⟨ha29, hsA⟩ := stop29_le hyA
  try simp only at ha29 hsA
  rw [hsA] at hyA h1
  try simp only at f1 nb1
  have HT2 : Hid (_) := told_any B gx s σ1 vt fx w1 h1 hs f1.pos hyA
  have f2 := f1.num 5
  obtain ⟨p2, hp2⟩ : ∃ p, p = numF s 5 σ1 := ⟨_, rfl⟩
  have HD2' : Hid (∀ p, numF s 5 σ1 = p → (stop29 p).why ≠ 0 → goal.2 = stop29 p) := fun p h3 h4 => HD2.out a σ1 p rfl hsA h3 h4
  have HCH' : Hid (∀ b σ2, numF s 5 σ1 = (b, σ2) → stop29 (b, σ2) = σ2 → hd = ⟨a, b, (numF s 4 σ2).1, (numF s 4 σ2).2⟩) := fun b σ2 h3 h4 => HCH.out a σ1 b σ2 rfl hsA h3 h4
  rw [← hp2] at HT2 f2 HD2' HCH'
  clear hp2 HD1 HD2 HCH f1 hsA h1
  obtain ⟨b, σ2⟩ := p2
  go_wp2_with fail
  refine Calls.mono HT2.out ?_
  rintro e w2 ⟨he, h2, k2⟩
  have K2 := K1.trans k2
  clear HT2 k2 K1
  by_cases hyB : (stop29 (b, σ2)).why = 0
  ·
   rw [endOf_ok hyB] at he; subst he
   obtain ⟨hb29, hsB⟩ := stop29_le hyB
   try simp only at hb29 hsB
   rw [hsB] at hyB h2
   try simp only at f2
   have hHD := HCH'.out b σ2 rfl hsB
   have HL : Hid (_) := lengthCodes_any B gx s σ2 vt fx w2 h2 hs f2 hyB hgo (hord.kp K2 ox v0)
   have f3 : Fit s (headGo s ((numF s 4 σ2).1 + 4) 0 (fun _ => 0) (numF s 4 σ2).2).2 := headGo_fit _ _ _ (f2.num 4)
   obtain ⟨q, hq⟩ : ∃ q, q = headGo s ((numF s 4 σ2).1 + 4) 0 (fun _ => 0) (numF s 4 σ2).2 := ⟨_, rfl⟩
   have hT := ownP_tail s hd
   have hgst : hd.a = a ∧ hd.b = b ∧ headGo s (hd.c + 4) 0 (fun _ => 0) hd.st = q ∧ (q.2.why = 0 → hd.st.why = 0) := by
    rw [hHD]
    refine ⟨rfl, rfl, hq.symm, fun h0 => ?_⟩
    rw [hq] at h0
    by_cases hh : (numF s 4 σ2).2.why = 0
    · exact hh
    ·
     rw [headGo_dead _ _ _ hh] at h0
     exact h0
   obtain ⟨hga, hgb, hgq, hgw⟩ := hgst
   rw [hga, hgb, hgq, ← HP.out] at hT
   have HT : Hid (_) := hT
   have HGW : Hid (_) := hgw
   have HGA : Hid (hd.a = a) := hga
   have HGB : Hid (hd.b = b) := hgb
   rw [← hq] at HL f3
   clear hq hT hgw hga hgb hgq hHD HCH' HD2' HP h2 f2 hsB
   go_wp2_with fail
   refine Calls.mono HL.out ?_
   rintro e w3 ⟨h3, k3, hcase⟩
   have K3 := K2.trans k3
   have hw2s := K2.size
   clear HL k3 K2
   rcases hcase with ⟨hy3, g, sy, rfl, hset, hwg⟩ | ⟨hy3, he⟩
   ·
    have f4 : Fit s (lcEnd q) := by
     have ha := lcEnd_alive hy3
     unfold lcEnd
     split
     · exact ⟨f3.pos, f3.text⟩
     · exact f3
    have hwx : w.heap.size ≤ g := by omega
    have hgx : g ≠ gx := by omega
    have hvg : vt.ownBlock ≠ some g := fun e => by have := hvn _ e; omega
    obtain ⟨m, hm⟩ : ∃ m, m = a + b + 258 := ⟨_, rfl⟩
    obtain ⟨F, hF⟩ : ∃ F, F = a + 257 := ⟨_, rfl⟩
    have hFI : (257 : Int) + (a : Int) = (F : Int) := by omega
    have hmI : (F : Int) + ((1 : Int) + (b : Int)) = (m : Int) := by omega
    have hLT := lensTail_ok (s := s) (n := a + b + 258) hy3
    have hT2 := HT.out.2
    have hT1 := HT.out.1
    unfold ownTail at hT1
    have hgw := HGW.out (lcEnd_alive hy3)
    have hT2' := hT2 hgw
    rw [hLT] at hT1 hT2'
    rw [← hm] at hT1 hT2'
    have HLn : Hid (_) := glengths_any B gx g m s (lcEnd q) vt fx (headZ q.1) sy w3 h3 hs f4 hy3 hset hgx hvg (by omega)
    generalize lenGo s (codeT (headZ q.1) 19) m (m + 1) [] (lcEnd q) = g2 at HLn hT1 hT2'
    have HO1 : Hid (_) := hT1
    have HO2 : Hid (_) := hT2'
    have HM : Hid (m = a + b + 258) := hm
    have HF : Hid (F = a + 257) := hF
    have hF288 : F ≤ 288 := by omega
    have hFm : F ≤ m := by omega
    have hm700 : m ≤ 700 := by omega
    have hF256 : 256 < F := by omega
    clear hT1 hT2 hT2' hLT hgw HT HGW hm hF f4 h3 hset hwx hwg hgx hvg f3
    go_wp2_with fail
    refine Calls.mono HLn.out ?_
    rintro e w4 ⟨h4, k4, hcase⟩
    have K4 := K3.trans k4
    have hw4 := K4.size
    clear HLn k4 K3
    rcases hcase with ⟨hy4, gl, rfl, hI, hwl, hlen, hrng⟩ | ⟨hy4, he⟩
    ·
     obtain ⟨L, σ4⟩ := g2
     simp only at hy4 hI hlen hrng h4
     have hr1 := fun i => lenZ_rng' hrng 0 i
     have hr2 := fun i => lenZ_rng' hrng F i
     have hI1 : IntsAt w4 gl 0 F (lenZ L 0) := ⟨fun i hi => by have := hI.cell i (by omega); unfold lenZ; rw [Nat.zero_add] at this ⊢; exact this, hI.lt⟩
     have hI2 : IntsAt w4 gl F (b + 1) (lenZ L F) := ⟨fun i hi => by have := hI.cell (F + i) (by have := HM.out; have := HF.out; omega); rw [Nat.zero_add] at this; exact this, hI.lt⟩
     have c256 : w4.cell? ⟨gl, 256, none⟩ = some (.int .i64 (L.getD 256 0)) := by have := hI.cell 256 (by omega); rw [Nat.zero_add] at this; exact this
     have hbad := badL_iff (L := L) (a := a) (b := b) (by omega) (by omega) (fun i _ => hr1 i) (fun i _ => by rw [← HF.out]; exact hr2 i)
     rw [← HF.out] at hbad
     have HBad : Hid (_) := hbad
     have HEnd : Hid (∀ bb, badL L a b = bb → goal.2 = if bb = true then { σ4 with why := 1 } else σ4) := by
      show ∀ bb, badL L a b = bb → goal.2 = if bb = true then { σ4 with why := 1 } else σ4
      intro bb hbb
      rw [HO1.out]
      unfold ownEnd
      cases bb with
      | true => rw [if_pos ⟨hy4, hbb⟩, if_pos rfl]; exact stopF_alive hy4
      | false => rw [if_neg (fun c => by rw [hbb] at c; exact absurd c.2 (by simp)), if_neg (by simp)]
     have HFail : Hid (∀ w', Rd B w' gx s σ4 vt fx → Kp w w' gx vt → badL L a b = true → K2Post B w gx s vt fx goal hd (endOf 1 .nilFunc) w') := by
      show ∀ w', _ → _ → _ → _
      intro w' hr hk hb
      have e := HEnd.out true hb
      rw [if_pos rfl] at e
      exact ⟨by rw [e]; exact hr.congr rfl rfl, hk, Or.inr ⟨by rw [e]; show (1 : Nat) ≠ 0; omega, by rw [e]⟩⟩
     have hFmI : (F : Int) ≤ (m : Int) := by omega
     have h256I : (256 : Int) < (m : Int) := by omega
     clear hbad hI
     go_wp2_with fail
     refine (fitting_any gl 0 F m (lenZ L 0) _ hI1 (by omega)).mono ?_
     rintro e w5 ⟨A1, rfl, ⟨hA1, hA2⟩, hA3, hb5⟩
     have k5 := Kp.below hb5 gx vt
     have h5 := (h4.kp' k5 hb5).alloc (.cells A1 185)
     have K5 := (K4.trans k5).trans (Kp.alloc w5 (.cells A1 185) gx vt)
     have hba : Below w4.heap.size w4 (w5.alloc (.cells A1 185)) := hb5.alloc hb5.size _
     have hI5 := hI2.later hba
     have c256' : (w5.alloc (.cells A1 185)).cell? ⟨gl, 256, none⟩ = some (.int .i64 (L.getD 256 0)) := (hba.cell (p := ⟨gl, 256, none⟩) hI1.lt).trans c256
     have hi1 : (Tryz.prog.info? 185).map (·.size) = some A1.size := by rw [hA1]; exact Tryz.size185
     have hnew5 := heap_alloc_last w5 (.cells A1 185)
     have hs5 := hb5.size
     clear hb5 k5 h4 K4 hI1 hI2 c256
     go_upto_region 5 with ((with_reducible refine wpList_store_new (w := w5) ?g1 185 (.tmp 6) (.tmp 27) ?g2 A1 ?g3 ?g4 _ hi1 ?g5 hA2 ?g6); (case g1 => rfl); (case g2 => rfl); (case g3 => rfl); (case g4 => rfl); (case g5 => rw [hA1]; rfl))
     cases hok1 : fitB (lenZ L 0) F
     ·
      have P := HFail.out _ h5 K5 (by
       cases hb : badL L a b
       · have := (HBad.out.1 hb).1; rw [hok1] at this; exact absurd this (by simp)
       · rfl)
      clear HFail HEnd HBad HO1 HO2 hA3 h5 K5
      go_wp2_with fail
      refine (wrong_any _).mono ?_
      rintro e w9 ⟨rfl, rfl⟩
      rw [endOf_bad (by omega)]
      rw [endOf_bad (by omega)] at P
      go_wp2
      exact ⟨rfl, P⟩
     ·
      by_cases h0 : L.getD 256 0 = 0
      ·
       have P := HFail.out _ h5 K5 (by
        cases hb : badL L a b
        · exact absurd h0 (HBad.out.1 hb).2.1
        · rfl)
       have e0 : (L.getD 256 0 == 0) = true := by rw [beq_iff_eq]; exact h0
       generalize L.getD 256 0 = x at c256' e0
       clear HFail HEnd HBad HO1 HO2 hA3 h5 K5
       go_wp2_with fail
       refine (wrong_any _).mono ?_
       rintro e w9 ⟨rfl, rfl⟩
       rw [endOf_bad (by omega)]
       rw [endOf_bad (by omega)] at P
       go_wp2
       exact ⟨rfl, P⟩
      ·
       have e0 : (L.getD 256 0 == 0) = false := by rw [beq_eq_false_iff_ne]; exact h0
       have HX : Hid (L.getD 256 0 ≠ 0) := h0
       generalize L.getD 256 0 = x at c256' e0
       obtain ⟨gA, syA, hAe1, hgA, hrowA, hsyA⟩ := hA3 hok1
       have HAe1 : Hid (A1 = setL (lenZ L 0) F gA) := hAe1
       have setA5 : SetIn (w5.alloc (.cells A1 185)) (lenZ L 0) F gA syA := ⟨fit_tidy hok1, hF288, hrowA.alloc _, hsyA⟩
       have hgAw : w.heap.size ≤ gA := by omega
       have hgA5 := setA5.row.lt
       have hmF : m - F = b + 1 := by have := HM.out; have := HF.out; omega
       clear hAe1 hrowA hA3 h0
       obtain ⟨w6, hw6⟩ : ∃ w6, w6 = w5.alloc (.cells A1 185) := ⟨_, rfl⟩
       obtain ⟨g6, hg6⟩ : ∃ g6, g6 = w5.heap.size := ⟨_, rfl⟩
       have hg6w : w.heap.size ≤ g6 := by omega
       have hg6s : g6 < w6.heap.size := by rw [hw6, hg6]; simp
       rw [← hg6, ← hw6] at hnew5
       rw [← hw6] at h5 K5 hI5 c256' setA5 hgA5 hba ⊢
       rw [← hg6]
       clear hw6 hg6
       go_wp2_with fail
       refine (sparse_any gl F (b + 1) (b + 1) (lenZ L F) _ hI5 (by omega)).mono ?_
       rintro e w7 ⟨A2, rfl, ⟨hB1, hB2⟩, hB3, hb7⟩
       have k7 := Kp.below hb7 gx vt
       have h7 := (h5.kp' k7 hb7).alloc (.cells A2 185)
       have K7 := (K5.trans k7).trans (Kp.alloc w7 (.cells A2 185) gx vt)
       have hi2 : (Tryz.prog.info? 185).map (·.size) = some A2.size := by rw [hB1]; exact Tryz.size185
       have hnew7 := heap_alloc_last w7 (.cells A2 185)
       have hs7 := hb7.size
       have hnew6 : (w7.alloc (.cells A2 185)).heap[g6]? = some (.cells A1 185 (0, 0)) := (Below.heap_alloc w7 _ _ (by omega)).trans ((hb7.block g6 hg6s).trans hnew5)
       have setA7 : SetIn (w7.alloc (.cells A2 185)) (lenZ L 0) F gA syA := ⟨setA5.tidy, setA5.many, (setA5.row.of_block (hb7.block gA hgA5)).alloc _, setA5.ok⟩
       clear hb7 k7 h5 K5 hI5 c256' setA5 hnew5 hba
       go_upto_region 8 with ((with_reducible refine wpList_store_new (w := w7) ?p1 185 (.tmp 8) (.tmp 43) ?p2 A2 ?p3 ?p4 _ hi2 ?p5 hB2 ?p6); (case p1 => rfl); (case p2 => rfl); (case p3 => rfl); (case p4 => rfl); (case p5 => rw [hB1]; rfl))
       cases hok2 : spaB (lenZ L F) (b + 1)
       ·
        have P := HFail.out _ h7 K7 (by
         cases hb : badL L a b
         · have := (HBad.out.1 hb).2.2; rw [hok2] at this; exact absurd this (by simp)
         · rfl)
        clear HFail HEnd HBad HO1 HO2 hB3 h7 K7
        go_wp2_with fail
        refine (wrong_any _).mono ?_
        rintro e w9 ⟨rfl, rfl⟩
        rw [endOf_bad (by omega)]
        rw [endOf_bad (by omega)] at P
        go_wp2
        exact ⟨rfl, P⟩
       ·
        obtain ⟨gB, syB, hBe, hgB', hrowB, hsyB⟩ := hB3 hok2
        have HBe : Hid (A2 = setL (lenZ L F) (b + 1) gB) := hBe
        have setB7 : SetIn (w7.alloc (.cells A2 185)) (lenZ L F) (b + 1) gB syB := ⟨spa_tidy hok2, by omega, hrowB.alloc _, hsyB⟩
        have hgBw : w.heap.size ≤ gB := by omega
        have egoal : goal.2 = σ4 := by
         have e := HEnd.out false (HBad.out.2 ⟨hok1, HX.out, hok2⟩)
         rw [if_neg (by simp)] at e
         exact e
        have egoal1 : goal.1 = L := HO2.out
        have HE2 : Hid (goal.2 = σ4) := egoal
        have HE1 : Hid (goal.1 = L) := egoal1
        clear egoal egoal1 HEnd HBad HFail HO1 HO2 hBe hB3 hrowB
        obtain ⟨w8, hw8⟩ : ∃ w8, w8 = w7.alloc (.cells A2 185) := ⟨_, rfl⟩
        obtain ⟨g8, hg8⟩ : ∃ g8, g8 = w7.heap.size := ⟨_, rfl⟩
        rw [← hg8, ← hw8] at hnew7
        rw [← hw8] at h7 K7 hnew6 setA7 setB7 ⊢
        rw [← hg8]
        have hw8s : w.heap.size ≤ w8.heap.size := K7.size
        clear hw8 hg8
        have hbp := built_plan (lenZ L 0) (lenZ L F) F (b + 1) gA gB
        rw [← HAe1.out, ← HBe.out] at hbp
        have hra := range_alloc w8 A1 A2 hA1 187
        have hKp := K7.trans (Kp.alloc w8 (.cells (A1 ++ A2) 187) gx vt)
        have hRd := h7.alloc (.cells (A1 ++ A2) 187)
        have hPl : PlanOk (fun b => w.heap.size ≤ b) (w8.alloc (.cells (A1 ++ A2) 187)) gx vt w8.heap.size (lenZ L 0) F (lenZ L F) (b + 1) := by
         refine ⟨gA, syA, gB, syB, ?_, hw8s, by show w.heap.size ≤ gA; omega, hgBw⟩
         have hka := Kp.alloc w8 (.cells (A1 ++ A2) 187) gx vt
         have nvA : vt.ownBlock ≠ some gA := fun e => by have := hvn _ e; omega
         have nvB : vt.ownBlock ≠ some gB := fun e => by have := hvn _ e; omega
         have nvP : vt.ownBlock ≠ some w8.heap.size := fun e => by have := hvn _ e; omega
         refine ⟨by rw [← HAe1.out]; exact hra.1, by rw [← HBe.out]; exact hra.2, setA7.kp hka (by omega) nvA, setB7.kp hka (by omega) nvB, ⟨by simp, by omega, nvP⟩, ⟨?_, by omega, nvA⟩, ⟨?_, by omega, nvB⟩⟩
         · have := setA7.row.lt; simp; omega
         · have := setB7.row.lt; simp; omega
        have P : K2Post B w gx s vt fx goal hd (.returned (.pointer (some ⟨w8.heap.size, 0, none⟩))) (w8.alloc (.cells (A1 ++ A2) 187)) := by
         refine ⟨by rw [HE2.out]; exact hRd, hKp, Or.inl ⟨by rw [HE2.out]; exact hy4, w8.heap.size, rfl, ?_⟩⟩
         rw [HE1.out, HGA.out, HGB.out, ← HF.out]
         exact hPl
        clear hRd hKp hPl hra setA7 setB7 h7 K7 HE1 HE2
        go_upto_region 10 with fail
        go_wp2_with (first | ((with_reducible refine wpList_load_row ?l1 185 (.tmp 6) ?l2 g6 ?l3 185 A1 (0, 0) _ hnew6 Tryz.underlying185 ?l4 hi1 ?l5); (case l1 => rfl); (case l2 => rfl); (case l3 => rfl); (case l4 => rfl)) | ((with_reducible refine wpList_load_row ?r1 185 (.tmp 8) ?r2 g8 ?r3 185 A2 (0, 0) _ hnew7 Tryz.underlying185 ?r4 hi2 ?r5); (case r1 => rfl); (case r2 => rfl); (case r3 => rfl); (case r4 => rfl)) | (refine wpList_build' rfl 187 #[(0, .tmp 48), (1, .tmp 49)] rfl (A1 ++ A2) [(0, .agg A1), (1, .agg A2)] (by simp [Act.eval, Act.put]) hbp ?_))
        go_ret
        exact P
    ·
     have P := K2Post.fail (hd := hd) (HO1.out.trans (ownEnd_dead hy4)) h4 K4 hy4
     rw [endOf_bad hy4] at he P
     subst he
     clear HO1 HO2 h4 K4
     go_wp2
     exact ⟨rfl, P⟩
   ·
    have P := K2Post.fail (hd := hd) (HT.out.1.trans (ownTail_dead hy3)) h3 K3 hy3
    rw [endOf_bad hy3] at he P
    subst he
    clear HT h3 K3
    go_wp2
    exact ⟨rfl, P⟩
  ·
   have P := K2Post.fail (hd := hd) (HD2'.out (b, σ2) rfl hyB) h2 K2 hyB
   rw [endOf_bad hyB] at he P
   subst he
   clear HD2' HCH' HP h2 K2
   go_wp2
   exact ⟨rfl, P⟩
 ·
  have P := K2Post.fail (hd := hd) (HD1.out (a, σ1) rfl hyA) h1 K1 hyA
  rw [endOf_bad hyA] at he P
  subst he
  clear HD1 HD2 HCH HP h1 K1
  go_wp2
  exact ⟨rfl, P⟩
end Go.Proofs.YtecddphahiadlaaGreatDoor
