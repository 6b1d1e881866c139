import Derived.Test.YtecddphahiadlaaGreatDoorCGMeas
import Derived.Test.YtecddphahiadlaaGreatDoorCPair
import Derived.Test.YtecddphahiadlaaGreatDoorCFixL
import Derived.Test.YtecddphahiadlaaGreatDoorCRunF
import Derived.Deep.MidRow
/- The program's again: a length and a distance. -/
namespace Go.Proofs.YtecddphahiadlaaGreatDoor
open Go.RowKit
theorem symF_dead {s : ByteArray} {z : Nat → Int} {n : Nat} {σ : St} (h : σ.why ≠ 0) : symF s (codeT z n) n σ = (-1, σ) := by
 have hn : hitF (codeT z n) .empty n 0 = none := hitF_none_all n 0 (fun i _ _ => hit_empty _)
 have hs : stopF σ 1 = σ := by unfold stopF; rw [if_neg h]
 unfold symF
 simp only [symGo, hn]
 rw [bitF_dead h, if_neg h, hs]
 split <;> rfl
theorem pairEnd_dead {n back : Nat} {σ : St} (h : σ.why ≠ 0) : pairEnd n back σ = σ := by unfold pairEnd; rw [if_pos h]
/-- Behind a symbol above 256. -/
def againF (s : ByteArray) (z : Nat → Int) (n y : Nat) (σ : St) : St := if 285 < y ∨ pas (cntN z n) 15 = 0 then { σ with why := 1 } else pairF s (codeT z n) n y σ
theorem againF_bad {s : ByteArray} {z : Nat → Int} {n y : Nat} {σ : St} (h : 285 < y ∨ pas (cntN z n) 15 = 0) : againF s z n y σ = { σ with why := 1 } := by unfold againF; rw [if_pos h]
theorem againF_ok {s : ByteArray} {z : Nat → Int} {n y : Nat} {σ : St} (h : ¬ (285 < y ∨ pas (cntN z n) 15 = 0)) : againF s z n y σ = pairEnd (pairN y + (numF s (pairM y) σ).1) (distP s (symF s (codeT z n) n (numF s (pairM y) σ).2)).1 (distP s (symF s (codeT z n) n (numF s (pairM y) σ).2)).2 := by
 unfold againF; rw [if_neg h]; unfold pairF; rw [pairDist_eq]
/-- Behind the length: the rest as a function of what was read. -/
def againMid (s : ByteArray) (z : Nat → Int) (n N : Nat) (q : Nat × St) : St := pairEnd (N + q.1) (distP s (symF s (codeT z n) n q.2)).1 (distP s (symF s (codeT z n) n q.2)).2
theorem againF_mid {s : ByteArray} {z : Nat → Int} {n y : Nat} {σ : St} (h : ¬ (285 < y ∨ pas (cntN z n) 15 = 0)) : againF s z n y σ = againMid s z n (pairN y) (numF s (pairM y) σ) := by
 rw [againF_ok h]; rfl
theorem againMid_dead {s : ByteArray} {z : Nat → Int} {n N : Nat} {q : Nat × St} (h : q.2.why ≠ 0) : againMid s z n N q = q.2 := by
 unfold againMid
 rw [symF_dead h, distP_bad (k := (-1, q.2)) h]
 exact pairEnd_dead h
theorem againMid_eq (s : ByteArray) (z : Nat → Int) (n N a : Nat) (σ : St) : againMid s z n N (a, σ) = pairEnd (N + a) (distP s (symF s (codeT z n) n σ)).1 (distP s (symF s (codeT z n) n σ)).2 := rfl
/-- The state of the loop over the bytes: k are still to come. -/
structure GCR (B : Nat) (w wr : World) (gx : Nat) (s : ByteArray) (vt : Value) (fx : Ex) (back k : Nat) (σ goal : St) : Prop where
 runs : RunsG B w wr gx s vt fx σ
 why : σ.why = 0
 one : 1 ≤ back
 far : back ≤ σ.text.length
 room : σ.text.length + k ≤ 5000
 eq : { σ with text := copyF back k σ.text } = goal
theorem GCR.zero {B : Nat} {w wr : World} {gx : Nat} {s : ByteArray} {vt : Value} {fx : Ex} {back : Nat} {σ goal : St} (h : GCR B w wr gx s vt fx back 0 σ goal) : goal.why = 0 ∧ RunsG B w wr gx s vt fx goal := by
 rw [← h.eq]; exact ⟨h.why, h.runs⟩
theorem gcr_step {B : Nat} {w wr w4 : World} {gx : Nat} {s : ByteArray} {vt vt' : Value} {fx : Ex} {back k : Nat} {σ goal : St} (h : GCR B w wr gx s vt fx back (k + 1) σ goal) (hkp : Kp w wr gx vt)
 (hfr : ∀ g, vt'.ownBlock = some g → vt.ownBlock = some g ∨ w.heap.size ≤ g) (h4 : RunsG B wr w4 gx s vt' fx { σ with text := σ.text ++ [σ.text.getD (σ.text.length - back) 0] }) :
 GCR B w w4 gx s vt fx back k { σ with text := σ.text ++ [σ.text.getD (σ.text.length - back) 0] } goal := by
 have hf := h.far
 have hr := h.room
 refine ⟨RunsG.trans hkp hfr h4, h.why, h.one, ?_, ?_, ?_⟩
 · show back ≤ (σ.text ++ _).length; rw [List.length_append]; omega
 · show (σ.text ++ _).length + k ≤ 5000; rw [List.length_append]; simp; omega
 · rw [← h.eq]; rfl
theorem rd_text1 {B : Nat} {w : World} {gx : Nat} {s : ByteArray} {σ : St} {vt : Value} {fx : Ex} (h : Rd B w gx s σ vt fx) (h1 : 1 ≤ σ.text.length) : ∃ g cap, vt = .slice (some ⟨g, 0, none⟩) σ.text.length cap := by
 obtain ⟨_, q⟩ := h.own
 rcases q with ⟨q, q0⟩ | ⟨g, cap, cur, q, _⟩
 · omega
 · exact ⟨_, _, q⟩
theorem again_more {B : Nat} {w w2 : World} {gx : Nat} {s : ByteArray} {σ : St} {vt : Value} {fx : Ex} {o : Obj} {c : UInt8} {g cp T g' cap' : Nat} (h : Rd B w gx s σ vt fx) (hvt : vt = .slice (some ⟨g, 0, none⟩) σ.text.length cp) (hT : T = σ.text.length)
 (ho : w2.ownsRow B 5 1 (.slice (some ⟨g', 0, none⟩) (T + 1) cap') (T + 1) (byteVals σ.text ++ [.int .u8 (c.toNat : Int)])) (hd : w.heap.size + 1 ≤ g' ∨ Value.ownBlock (.slice (some ⟨g, 0, none⟩) T cp) = some g') (hg : (w.alloc o).drew.grownBy w2 (some g')) :
 w2.cell? ⟨gx, 5, none⟩ = some vt ∧ w2.frozen? ⟨gx, 5, none⟩ = false ∧ RunsG B w (w2.setCell ⟨gx, 5, none⟩ (.slice (some ⟨g', 0, none⟩) (T + 1) cap')) gx s vt fx { σ with text := σ.text ++ [c] } := by
 subst hT
 have hd' : w.heap.size + 1 ≤ g' ∨ vt.ownBlock = some g' := by rw [hvt]; exact hd
 exact rd_more h ho hd' (o := o) ⟨hg.os, hg.tape, hg.output, hg.size, hg.block⟩
theorem pairEnd_far {n back : Nat} {σ : St} (h : σ.why = 0) (hf : σ.text.length < back) : pairEnd n back σ = { σ with why := 1 } := by
 unfold pairEnd; rw [if_neg (by omega), if_pos hf]; unfold stopF; rw [if_pos h]
theorem pairEnd_long {n back : Nat} {σ : St} (h : σ.why = 0) (hf : ¬ σ.text.length < back) (hl : 5000 < σ.text.length + n) : pairEnd n back σ = { σ with why := 3 } := by
 unfold pairEnd; rw [if_neg (by omega), if_neg hf, if_pos hl]; unfold stopF; rw [if_pos h]
theorem pairEnd_copy {n back : Nat} {σ : St} (h : σ.why = 0) (hf : ¬ σ.text.length < back) (hl : ¬ 5000 < σ.text.length + n) : pairEnd n back σ = { σ with text := copyF back n σ.text } := by
 unfold pairEnd; rw [if_neg (by omega), if_neg hf, if_neg hl]
theorem distP_bd {s : ByteArray} {k : Int × St} (h : (distP s k).2.why = 0) (hk : ∃ k' : Nat, k.1 = (k' : Int)) : 1 ≤ (distP s k).1 ∧ (distP s k).1 ≤ 200000 := by
 obtain ⟨k0, σ⟩ := k
 obtain ⟨k', hk'⟩ := hk
 simp only at hk'
 subst hk'
 by_cases h0 : σ.why = 0
 ·
  by_cases h29 : k' < 30
  ·
   rw [distP_ok h0 h29]
   obtain ⟨t1, t2⟩ := tellD_le h29
   have n1 := numF_lt s (addD k') σ
   have n2 : 2 ^ addD k' ≤ 2 ^ 13 := Nat.pow_le_pow_right (by omega) t2
   have n3 : (2 : Nat) ^ 13 = 8192 := rfl
   show 1 ≤ 1 + tellD k' + (numF s (addD k') σ).1 ∧ 1 + tellD k' + (numF s (addD k') σ).1 ≤ 200000
   omega
  ·
   rw [distP_wrong (k := ((k' : Int), σ)) h0 (by show (29 : Int) < (k' : Int); omega)] at h
   exact absurd h (by show ¬ (1 : Nat) = 0; omega)
 ·
  rw [distP_bad (k := ((k' : Int), σ)) h0] at h
  exact absurd h h0
theorem Fit.distP {s : ByteArray} {k : Int × St} (h : Fit s k.2) : Fit s (distP s k).2 := by
 unfold Go.Proofs.YtecddphahiadlaaGreatDoor.distP
 split
 ·
  show Fit s (distSt k)
  unfold distSt
  split
  · exact h.stop 1
  · exact h
 · exact Fit.num _ h
theorem distP_fst {s : ByteArray} {z : Nat → Int} {n : Nat} (ht : Tidy z n) (σ : St) (h : (distP s (symF s (codeT z n) n σ)).2.why = 0) : ∃ k' : Nat, (symF s (codeT z n) n σ).1 = (k' : Int) := by
 by_cases h0 : (symF s (codeT z n) n σ).2.why = 0
 ·
  obtain ⟨k, _, hk⟩ := symF_fst (codeT_size ht) σ h0
  exact ⟨k, hk⟩
 ·
  rw [distP_bad h0] at h
  exact absurd h h0
/- The program's again, walked. -/
set_option maxRecDepth 4000 in
set_option maxHeartbeats 2000000 in
theorem again_any (B gx g n y : Nat) (s : ByteArray) (σ : St) (vt : Value) (fx : Ex) (z : Nat → Int) (sy : Nat → Nat) (w : World) (h : Rd B w gx s σ vt fx) (hs : s.size ≤ 140737488400000) (hf : Fit s σ) (hy : σ.why = 0)
 (hset : SetIn w z n g sy) (hgx : g ≠ gx) (hvg : vt.ownBlock ≠ some g) (hy1 : 257 ≤ y) (hyb : y ≤ 1000) :
 Calls Tryz.prog 125 #[.pointer (some ⟨gx, 0, none⟩), .int .i64 (y : Int), setV z n g] w fun e w' => e = endOf (againF s z n y σ).why (.tuple #[]) ∧ RunsG B w w' gx s vt fx (againF s z n y σ) := by
 obtain ⟨goal, hgoal⟩ : ∃ goal, goal = againF s z n y σ := ⟨_, rfl⟩
 rw [← hgoal]
 have HG : Hid (_) := hgoal
 clear hgoal
 obtain ⟨A, hA⟩ : ∃ A, A = setA (cntN z n) (.slice (some ⟨g, 0, none⟩) (pas (cntN z n) 15) (pas (cntN z n) 15)) := ⟨_, rfl⟩
 have hsv : setV z n g = .agg A := by rw [hA]; rfl
 have hAs : (Tryz.prog.info? 185).map (·.size) = some A.size := by rw [hA]; exact Tryz.size185
 have hnew : (w.alloc (.cells A 185)).heap[w.heap.size]? = _ := heap_alloc_last w (.cells A 185)
 have hd := h.alloc (.cells A 185)
 have hK1 : Kp w (w.alloc (.cells A 185)) gx vt := Kp.alloc w _ gx vt
 have hgl := h.row.lt
 have hgv : vt.ownBlock ≠ some w.heap.size := fun e => by have := h.own.lt _ e; omega
 have hset1 := hset.kp hK1 hgx hvg
 have hEm := fun w' => empty_any z n g w' hset.tidy.rng
 have hDi := fun (σ : St) w' h hs hf hy hset => distance_any B gx g n s σ vt fx z sy w' h hs hf hy hset hgx hvg
 rw [hsv] at hEm hDi ⊢
 have HEm : Hid (_) := hEm
 have HDi : Hid (_) := hDi
 clear hEm hDi hsv hA
 by_cases h285 : 285 < y
 ·
  have HB : Hid (goal = { σ with why := 1 }) := by show _ = _; rw [HG.out, againF_bad (Or.inl h285)]
  have d1 : decide ((285 : Int) < (y : Int)) = true := by rw [decide_eq_true_iff]; omega
  clear HG HEm HDi hset1 hset
  go_enter Tryz.func125, Tryz.ntmps125
  go_wp2_with fail
  refine (wrong_any _).mono ?_
  rintro e w4 ⟨rfl, rfl⟩
  rw [endOf_bad (by omega)]
  go_wp2
  rw [HB.out]
  exact ⟨rfl, rfl, vt, hd.congr rfl rfl, hK1, fun _ hg => Or.inl hg⟩
 ·
  have d1 : decide ((285 : Int) < (y : Int)) = false := by rw [decide_eq_false_iff_not]; omega
  obtain ⟨gs, hgs⟩ : ∃ gs, gs = w.heap.size := ⟨_, rfl⟩
  go_enter Tryz.func125, Tryz.ntmps125
  go_wp2_with (first | (refine wpList_load_row_g rfl 185 (.tmp 5) rfl w.heap.size rfl 185 A (0, 0) _ hnew Tryz.underlying185 rfl hAs ?_) | fail)
  refine (HEm.out _).mono ?_
  rintro e w1 ⟨rfl, o1, rfl⟩
  have hK2 : Kp w ((w.alloc (.cells A 185)).alloc o1) gx vt := hK1.trans (Kp.alloc _ _ gx vt)
  have hd2 := hd.alloc o1
  have hset2 := hset.kp hK2 hgx hvg
  have hnew2 : ((w.alloc (.cells A 185)).alloc o1).heap[w.heap.size]? = _ := (Below.heap_alloc _ o1 _ (by simp)).trans hnew
  have hlt2 : w.heap.size < ((w.alloc (.cells A 185)).alloc o1).heap.size := by simp; omega
  clear hnew hd hK1 hset1
  generalize (w.alloc (.cells A 185)).alloc o1 = w1 at hK2 hd2 hset2 hnew2 hlt2 ⊢
  by_cases hemp : pas (cntN z n) 15 = 0
  ·
   have HB : Hid (goal = { σ with why := 1 }) := by show _ = _; rw [HG.out, againF_bad (Or.inr hemp)]
   clear HG HEm HDi hset2 hset
   go_wp2_with fail
   refine (wrong_any _).mono ?_
   rintro e w4 ⟨rfl, rfl⟩
   rw [endOf_bad (by omega)]
   go_wp2
   rw [HB.out]
   exact ⟨rfl, rfl, vt, hd2.congr rfl rfl, hK2, fun _ hg => Or.inl hg⟩
  ·
   have hemp' : decide (pas (cntN z n) 15 = 0) = false := by rw [decide_eq_false_iff_not]; exact hemp
   have HM : Hid (_) := (HG.out).trans (againF_mid (s := s) (σ := σ) (show ¬ (285 < y ∨ pas (cntN z n) 15 = 0) by omega))
   have pm := pairM_le y hy1 (by omega)
   have pn := pairN_le y (by omega)
   have HL : Hid (_) := length_any B gx y s σ vt fx w1 hd2 hs hf.pos hy hy1 (by omega)
   have f2 := hf.num (pairM y)
   have nb := numF_lt s (pairM y) σ
   have nb8 : 2 ^ pairM y ≤ 2 ^ 8 := Nat.pow_le_pow_right (by omega) (by omega)
   have h28 : (2 : Nat) ^ 8 = 256 := rfl
   have nb' : (numF s (pairM y) σ).1 < 256 := by omega
   clear HG HEm hemp nb nb8 h28
   go_wp2_with fail
   refine Calls.mono HL.out ?_
   rintro e w2 ⟨he, h2, k2⟩
   generalize numF s (pairM y) σ = q at he h2 HM f2 nb'
   obtain ⟨a, σ2⟩ := q
   simp only at he h2 f2 nb'
   have K2 := hK2.trans k2
   have hset2' := hset.kp K2 hgx hvg
   have hnew3 := (k2.block w.heap.size hlt2 (by omega) hgv).trans hnew2
   clear hnew2 hd2 hset2 HL k2 hf hy
   by_cases hy2 : σ2.why = 0
   ·
    rw [endOf_ok hy2] at he; subst he
    rw [againMid_eq] at HM
    obtain ⟨N, hN⟩ : ∃ N, N = pairN y + a := ⟨_, rfl⟩
    rw [← hN] at HM ⊢
    have hNb : N ≤ 3000000 := by omega
    clear hN pn pm nb'
    have HD2 : Hid (_) := HDi.out σ2 w2 h2 hs f2 hy2 hset2'
    have f3 : Fit s (distP s (symF s (codeT z n) n σ2)).2 := Fit.distP f2.symF
    have hbd := fun hh => distP_bd (s := s) (k := symF s (codeT z n) n σ2) hh (distP_fst hset.tidy σ2 hh)
    clear HDi
    go_wp2_with (first | (refine wpList_load_row rfl 185 (.tmp 5) rfl w.heap.size rfl 185 A (0, 0) _ hnew3 Tryz.underlying185 rfl hAs ?_) | fail)
    refine Calls.mono HD2.out ?_
    rintro e w3 ⟨he, h3, k3⟩
    have K3 := K2.trans k3
    clear k3 K2 h2 HD2 hnew3 hset2' f2
    generalize distP s (symF s (codeT z n) n σ2) = q at he h3 HM f3 hbd
    obtain ⟨bk, σ3⟩ := q
    simp only at he h3 HM f3 hbd
    by_cases hy3 : σ3.why = 0
    ·
     rw [endOf_ok hy3] at he; subst he
     obtain ⟨hbk1, hbk2⟩ := hbd hy3
     obtain ⟨ao, cap, hvt⟩ := rd_text h3
     have c3 := h3.c3
     rw [hvt] at c3
     have ht := f3.text
     obtain ⟨T, hT⟩ : ∃ T, T = σ3.text.length := ⟨_, rfl⟩
     rw [← hT] at c3
     clear hbd
     by_cases hfar : σ3.text.length < bk
     ·
      have HE : Hid (goal = { σ3 with why := 1 }) := by show _ = _; rw [HM.out, pairEnd_far hy3 hfar]
      have d2 : decide ((T : Int) < (bk : Int)) = true := by rw [decide_eq_true_iff]; omega
      clear HM
      go_wp2_with fail
      refine (wrong_any _).mono ?_
      rintro e w4 ⟨rfl, rfl⟩
      rw [endOf_bad (by omega)]
      go_wp2
      rw [HE.out]
      exact ⟨rfl, rfl, vt, h3.congr rfl rfl, K3, fun _ hg => Or.inl hg⟩
     ·
      have d2 : decide ((T : Int) < (bk : Int)) = false := by rw [decide_eq_false_iff_not]; omega
      have HFi : Hid (_) := fits_any B gx N s σ3 vt fx w3 h3 ht
      go_wp2_with fail
      refine Calls.mono HFi.out ?_
      rintro e w4 ⟨he, rfl⟩
      clear HFi
      by_cases hlong : 5000 < σ3.text.length + N
      ·
       have HE : Hid (goal = { σ3 with why := 3 }) := by show _ = _; rw [HM.out, pairEnd_long hy3 hfar hlong]
       have hr : roomY σ3 N = 3 := by unfold roomY; rw [if_pos hlong]
       rw [hr, endOf_bad (by omega)] at he
       subst he
       clear HM
       go_wp2
       rw [HE.out]
       exact ⟨rfl, rfl, vt, h3.congr rfl rfl, K3, fun _ hg => Or.inl hg⟩
      ·
       have hr : roomY σ3 N = 0 := by unfold roomY; rw [if_neg hlong]
       rw [hr, endOf_ok rfl] at he
       subst he
       have R0 : GCR B w w4 gx s vt fx bk N σ3 goal := ⟨⟨vt, h3, K3, fun _ hg => Or.inl hg⟩, hy3, hbk1, by omega, by omega, by rw [HM.out, pairEnd_copy hy3 hfar hlong]⟩
       clear HM hvt c3 h3 K3 f3 ht hT d2 hfar hlong hr hset
       go_wp2_with fail
       go_loopw [33] (fun i wr => ∃ (j k : Nat) (σ5 : St), j + k = N ∧ i = .int .i64 (j : Nat) ∧ GCR B w wr gx s vt fx bk k σ5 goal) (fun i _ => N - (intOf i).toNat)
       case atStart => exact ⟨0, N, σ3, by omega, rfl, R0⟩
       case round =>
        clear R0
        obtain ⟨jj, k, σ5, hjk, rfl, hrel⟩ := hrel
        obtain ⟨vt', hstr, hkp, hfr⟩ := hrel.runs
        have hrm := hrel.room
        have hfa := hrel.far
        by_cases hk : 0 < k
        ·
         obtain ⟨k1, rfl⟩ : ∃ k1, k = k1 + 1 := ⟨k - 1, by omega⟩
         obtain ⟨gt, cp5, hvt⟩ := rd_text1 hstr (by omega)
         have c3 := hstr.c3
         have f3 := hstr.fz 5
         have hown := hstr.own
         rw [hvt] at c3 hown
         have hcell := hown.cells (g := gt) rfl (σ5.text.length - bk) _ (byteVals_get σ5.text (σ5.text.length - bk) (by omega))
         have HST : Hid (_) := fun w4 => gcr_step (w4 := w4) hrel hkp hfr
         generalize hcv : σ5.text.getD (σ5.text.length - bk) 0 = cv at hcell HST
         obtain ⟨T, hT⟩ : ∃ T, T = σ5.text.length := ⟨_, rfl⟩
         obtain ⟨j, hj⟩ : ∃ j, j = T - bk := ⟨_, rfl⟩
         rw [← hT] at c3 hown hcell hrm hfa
         rw [← hj] at hcell
         have hjI : (T : Int) - (bk : Int) = (j : Int) := by omega
         have hj1 : j < T := by omega
         have hj2 : (j : Int) < (T : Int) := by omega
         rw [addr_add0] at hcell
         have hjN : jj < N := by omega
         have hjN2 : (jj : Int) < (N : Int) := by omega
         have HT : Hid (T = σ5.text.length) := hT
         have HGr : Hid (_) := hstr
         have HV : Hid (_) := hvt
         have c3a : (wr.alloc (.cells #[.int .u8 (cv.toNat : Int)] 5)).cell? ⟨gx, 5, none⟩ = some (.slice (some ⟨gt, 0, none⟩) T cp5) := by
          have e := (hstr.alloc (.cells #[.int .u8 (cv.toNat : Int)] 5)).c3
          rw [hT, ← hvt]
          exact e
         have hwr : IntKind.i64.wrap (j : Int) = (j : Int) := by rw [IntKind.wrap_i64]; omega
         have hBw := hstr.le
         have hBl := hstr.row.lt
         clear hk hj hcv hrel hkp hT hstr hvt
         go_wp2_with fail
         go_region_law (
          refine step_append1 rfl (.tmp 39) (.tmp 53) 80 rfl B 5 (.int .u8 0) 1 Tryz.underlying80 Tryz.info5 rfl (.slice (some ⟨gt, 0, none⟩) T cp5) T _ (.int .u8 (cv.toNat : Int)) (by simp [Act.eval]) rfl wr.heap.size 1 (by simp [Act.eval]) (by simp) (hown.alloc _).drew (by simp; omega) (by unfold maxLen; omega) (by omega) ?_
          intro g' cap' w5 ho hd hg
          obtain ⟨k5, fz5, R5⟩ := again_more HGr.out HV.out HT.out ho (by simpa using hd) hg
          clear ho hd hg)
         all_goals
          go_wp2
          go_roundw
          case rel => exact ⟨jj + 1, k1, _, by omega, by go_num, HST.out _ R5⟩
          case measure => simp [intOf]; omega
        ·
         obtain rfl : k = 0 := by omega
         obtain rfl : jj = N := by omega
         obtain ⟨eg, R⟩ := hrel.zero
         clear hstr hkp hfr hrel
         go_wp2
         go_end0
         rw [endOf_ok eg]
         exact ⟨rfl, R⟩
    ·
     rw [endOf_bad hy3] at he; subst he
     have HE : Hid (goal = σ3) := by show _ = _; rw [HM.out, pairEnd_dead hy3]
     clear HM
     go_wp2
     rw [HE.out, endOf_bad hy3]
     exact ⟨rfl, rfl, vt, h3, K3, fun _ hg => Or.inl hg⟩
   ·
    rw [endOf_bad hy2] at he; subst he
    have HE : Hid (goal = σ2) := by show _ = _; rw [HM.out, againMid_dead hy2]
    clear HM HDi
    go_wp2
    rw [HE.out, endOf_bad hy2]
    exact ⟨rfl, rfl, vt, h2, K2, fun _ hg => Or.inl hg⟩
/- Lengths that fit, or few: plain facts; plans in memory. -/
theorem fit_tidy {z : Nat → Int} {n : Nat} (h : fitB z n = true) : Tidy z n := by
 simp only [fitB, Bool.and_eq_true, decide_eq_true_eq] at h
 refine ⟨((okB_iff z n).1 h.1).2, by omega, fun L x hL hx _ _ => ?_⟩
 have e : (32768 : Nat) = 2 ^ L * 2 ^ (15 - L) := by rw [← Nat.pow_add, show L + (15 - L) = 15 from by omega]
 rw [h.2, e]
 exact Nat.mul_lt_mul_of_pos_right hx (Nat.two_pow_pos _)
theorem pas_few {c : Nat → Nat} (h : ∀ l, l < 14 → c (l + 2) = 0) : ∀ L, 1 ≤ L → L ≤ 15 → pas c L = c 1 ∧ kr c L = c 1 * 16384
 | 0, h1, _ => by omega
 | 1, _, _ => by simp [pas, kr]
 |
  L + 2, _, h2 => by
  obtain ⟨a, b⟩ := pas_few h (L + 1) (by omega) (by omega)
  have e := h L (by omega)
  rw [pas_succ, kr_succ, a, b, e]
  simp
theorem few_tidy {z : Nat → Int} {n : Nat} (ho : okB z n = true) (h : fewB (cntN z n) = true) : Tidy z n := by
 obtain ⟨h1, h2⟩ := (fewB_iff _).1 h
 obtain ⟨p15, k15⟩ := pas_few h1 15 (by omega) (by omega)
 refine ⟨((okB_iff z n).1 ho).2, by omega, fun L x hL hx _ hp => ?_⟩
 by_cases e : L = 0
 ·
  subst e
  have : x = 0 := by simp at hx; omega
  subst this
  have e0 : pas (cntN z n) 0 = 0 := rfl
  rw [e0, p15] at hp
  rw [k15, Nat.zero_mul]
  omega
 ·
  obtain ⟨pL, _⟩ := pas_few h1 L (by omega) hL
  rw [pL, p15] at hp
  omega
theorem spa_tidy {z : Nat → Int} {n : Nat} (h : spaB z n = true) : Tidy z n := by
 simp only [spaB, Bool.and_eq_true, Bool.or_eq_true, decide_eq_true_eq] at h
 rcases h.2 with h2 | h2
 · exact fit_tidy (by simp only [fitB, Bool.and_eq_true, decide_eq_true_eq]; exact ⟨h.1, h2⟩)
 · exact few_tidy h.1 h2
theorem used_pas (z : Nat → Int) (n : Nat) (h : ∀ i, i < n → 0 ≤ z i ∧ z i ≤ 15) : usedN z n = pas (cntN z n) 15 := by
 have e : ∀ m, usedN z m + cntN z m 0 = m ∨ ∃ i, i < m ∧ z i < 0 := by
  intro m
  induction m with
  | zero => exact Or.inl rfl
  |
   succ m ih =>
   rcases ih with ih | ⟨i, hi, hz⟩
   ·
    by_cases hz : z m < 0
    · exact Or.inr ⟨m, by omega, hz⟩
    ·
     left
     simp only [usedN, cntN]
     by_cases h0 : 0 < z m
     · rw [if_pos h0, if_neg (by omega)]; omega
     · rw [if_neg h0, if_pos (by omega)]; omega
   · exact Or.inr ⟨i, by omega, hz⟩
 have h2 := pas_all z n h
 rcases e n with e | ⟨i, hi, hz⟩
 · omega
 · have := h i hi; omega
theorem kr_few_le (c : Nat → Nat) : ∀ m, kr c (m + 1) ≤ c 1 * 16384 + (pas c (m + 1) - c 1) * 8192 ∧ c 1 ≤ pas c (m + 1)
 | 0 => by simp [kr, pas]
 |
  m + 1 => by
  obtain ⟨a, b⟩ := kr_few_le c m
  have hp : 2 ^ (15 - (m + 1 + 1)) ≤ 2 ^ 13 := Nat.pow_le_pow_right (by omega) (by omega)
  have h13 : (2 : Nat) ^ 13 = 8192 := rfl
  have hm := Nat.mul_le_mul_left (c (m + 1 + 1)) hp
  rw [kr_succ, pas_succ]
  refine ⟨?_, by omega⟩
  have e : pas c (m + 1) + c (m + 1 + 1) - c 1 = (pas c (m + 1) - c 1) + c (m + 1 + 1) := by omega
  rw [e, Nat.add_mul]
  omega
/-- Few, as the document asks it. -/
theorem few_iff {z : Nat → Int} {n : Nat} (hr : ∀ i, i < n → 0 ≤ z i ∧ z i ≤ 15) : fewB (cntN z n) = true ↔ (usedN z n = 0 ∨ (usedN z n = 1 ∧ ks0 z n = 16384)) := by
 rw [fewB_iff, used_pas z n hr, ← kr_ks0 z n hr]
 refine ⟨fun ⟨h1, h2⟩ => ?_, fun h => ?_⟩
 ·
  obtain ⟨p15, k15⟩ := pas_few h1 15 (by omega) (by omega)
  rw [p15, k15]
  omega
 ·
  obtain ⟨a, b⟩ := kr_few_le (cntN z n) 14
  have hz : ∀ l, l < 14 → cntN z n 1 + cntN z n (l + 2) ≤ pas (cntN z n) 15 := by
   intro l hl
   have h1 := pas_mono (cntN z n) (show l + 2 ≤ 15 by omega)
   have h2 := pas_mono (cntN z n) (show 1 ≤ l + 1 by omega)
   have h3 : pas (cntN z n) (l + 2) = pas (cntN z n) (l + 1) + cntN z n (l + 2) := pas_succ (cntN z n) (l + 1)
   have h4 : pas (cntN z n) 1 = cntN z n 1 := by simp [pas]
   rw [h4] at h2
   rw [h3] at h1
   exact Nat.le_trans (Nat.add_le_add_right h2 _) h1
  have a' : kr (cntN z n) 15 ≤ cntN z n 1 * 16384 + (pas (cntN z n) 15 - cntN z n 1) * 8192 := a
  have b' : cntN z n 1 ≤ pas (cntN z n) 15 := b
  clear a b
  generalize pas (cntN z n) 15 = p at hz a' b' h
  generalize kr (cntN z n) 15 = kk at a' h
  rcases h with h | ⟨h, h2⟩
  · exact ⟨fun l hl => by have := hz l hl; omega, by omega⟩
  ·
   have h1 : cntN z n 1 = 1 := by omega
   exact ⟨fun l hl => by have := hz l hl; omega, by omega⟩
theorem spaB_iff {z : Nat → Int} {n : Nat} (hn : n ≤ 288) (hr : ∀ i, i < n → 0 ≤ z i ∧ z i ≤ 15) : spaB z n = true ↔ (ks0 z n = 32768 ∨ usedN z n = 0 ∨ (usedN z n = 1 ∧ ks0 z n = 16384)) := by
 unfold spaB
 rw [okB_yes hn hr, Bool.true_and, Bool.or_eq_true, decide_eq_true_iff, few_iff hr, kr_ks0 z n hr]
theorem fitB_iff {z : Nat → Int} {n : Nat} (hn : n ≤ 288) (hr : ∀ i, i < n → 0 ≤ z i ∧ z i ≤ 15) : fitB z n = true ↔ ks0 z n = 32768 := by
 rw [fitB_of_ok (okB_yes hn hr) hr, decide_eq_true_iff]
theorem badL_iff {L : List Int} {a b : Nat} (ha : a + 257 ≤ 288) (hb : b + 1 ≤ 288) (h1 : ∀ i, i < a + 257 → 0 ≤ lenZ L 0 i ∧ lenZ L 0 i ≤ 15) (h2 : ∀ i, i < b + 1 → 0 ≤ lenZ L (a + 257) i ∧ lenZ L (a + 257) i ≤ 15) :
 badL L a b = false ↔ (fitB (lenZ L 0) (a + 257) = true ∧ L.getD 256 0 ≠ 0 ∧ spaB (lenZ L (a + 257)) (b + 1) = true) := by
 rw [fitB_iff ha h1, spaB_iff hb h2]
 unfold badL
 generalize ks0 (lenZ L 0) (a + 257) = m
 generalize ks0 (lenZ L (a + 257)) (b + 1) = n
 generalize usedN (lenZ L (a + 257)) (b + 1) = k
 generalize L.getD 256 0 = x
 simp only [Bool.or_eq_false_iff, Bool.and_eq_false_iff, Bool.not_eq_eq_eq_not, Bool.not_false, beq_iff_eq, beq_eq_false_iff_ne, decide_eq_false_iff_not, Bool.and_eq_true]
 refine ⟨fun ⟨⟨q1, q2⟩, q3⟩ => ⟨q1, q2, ?_⟩, fun ⟨q1, q2, q3⟩ => ⟨⟨q1, q2⟩, ?_⟩⟩
 ·
  rcases q3 with (q3 | q3) | q3
  · exact Or.inl q3
  · exact Or.inr (Or.inl (by omega))
  · exact Or.inr (Or.inr q3)
 ·
  rcases q3 with q3 | q3 | q3
  · exact Or.inl (Or.inl q3)
  · exact Or.inl (Or.inr (by omega))
  · exact Or.inr q3
/-- The table of the order, in memory. -/
structure OrdIn (w : World) (go : Nat) : Prop where
 cell : ∀ i, i < 19 → w.cell? ⟨go, i, none⟩ = some (.int .i64 (ordN i : Nat))
 lt : go < w.heap.size
theorem OrdIn.kp {w w' : World} {go gx : Nat} {vt : Value} (h : OrdIn w go) (k : Kp w w' gx vt) (hx : go ≠ gx) (hv : vt.ownBlock ≠ some go) : OrdIn w' go :=
 ⟨fun i hi => by
  have e := k.block go h.lt hx hv
  have c := h.cell i hi
  simp only [World.cell?] at c ⊢
  rw [e]; exact c, Nat.lt_of_lt_of_le h.lt k.size⟩
end Go.Proofs.YtecddphahiadlaaGreatDoor
