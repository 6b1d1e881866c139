/- The program's again, walked. -/
import Derived.Test.YtnfghnolklhppaaDoorGAgain
namespace Go.Proofs.YtnfghnolklhppaaDoor
open Go.RowKit

set_option maxRecDepth 4000 in
set_option maxHeartbeats 2000000 in
theorem again_any (B gx g n y : Nat) (s : ByteArray) (σ : St) (vt fx : Value) (z : Nat → Int) (sy : Nat → Nat) (w : World) (h : Rd B w gx s σ vt fx) (hs : s.size ≤ 140737488355328) (hf : Fit s σ) (hy : σ.why = 0)
    (hset : SetIn w z n g sy) (hgx : g ≠ gx) (hvg : vt.ownBlock ≠ some g) (hy1 : 257 ≤ y) (hyb : y ≤ 1000) :
    Calls Tryd.prog 52 #[.pointer (some ⟨gx, 0, none⟩), .int .i64 (y : Int), setV z n g] w fun e w' => e = endOf (againF s z n y σ).why (.tuple #[]) ∧ RunsG B w w' gx s vt fx (againF s z n y σ) := by
  obtain ⟨goal, hgoal⟩ : ∃ goal, goal = againF s z n y σ := ⟨_, rfl⟩
  rw [← hgoal]
  have HG : Hid (_) := hgoal
  clear hgoal
  obtain ⟨A, hA⟩ : ∃ A, A = setA (cntN z n) (.slice (some ⟨g, 0, none⟩) (pas (cntN z n) 15) (pas (cntN z n) 15)) := ⟨_, rfl⟩
  have hsv : setV z n g = .agg A := by rw [hA]; rfl
  have hAs : (Tryd.prog.info? 80).map (·.size) = some A.size := by rw [hA]; exact Tryd.size80
  have hnew : (w.alloc (.cells A 80)).heap[w.heap.size]? = _ := heap_alloc_last w (.cells A 80)
  have hd := h.alloc (.cells A 80)
  have hK1 : Kp w (w.alloc (.cells A 80)) gx vt := Kp.alloc w _ gx vt
  have hgl := h.row.lt
  have hgv : vt.ownBlock ≠ some w.heap.size := fun e => by have := h.own.lt _ e; omega
  have hset1 := hset.kp hK1 hgx hvg
  have hEm := fun w' => empty_any z n g w' hset.tidy.rng
  have hDi := fun (σ : St) w' h hs hf hy hset => distance_any B gx g n s σ vt fx z sy w' h hs hf hy hset hgx hvg
  rw [hsv] at hEm hDi ⊢
  have HEm : Hid (_) := hEm
  have HDi : Hid (_) := hDi
  clear hEm hDi hsv hA
  by_cases h285 : 285 < y
  · have HB : Hid (goal = { σ with why := 1 }) := by show _ = _; rw [HG.out, againF_bad (Or.inl h285)]
    have d1 : decide ((285 : Int) < (y : Int)) = true := by rw [decide_eq_true_iff]; omega
    clear HG HEm HDi hset1 hset
    go_enter Tryd.func52, Tryd.ntmps52
    go_wp2_with fail
    refine (wrong_any _).mono ?_
    rintro e w4 ⟨rfl, rfl⟩
    rw [endOf_bad (by omega)]
    go_wp2
    rw [HB.out]
    exact ⟨rfl, rfl, vt, hd.congr rfl rfl, hK1, fun _ hg => Or.inl hg⟩
  · have d1 : decide ((285 : Int) < (y : Int)) = false := by rw [decide_eq_false_iff_not]; omega
    obtain ⟨gs, hgs⟩ : ∃ gs, gs = w.heap.size := ⟨_, rfl⟩
    go_enter Tryd.func52, Tryd.ntmps52
    go_wp2_with (first | (refine wpList_load_row_g rfl 80 (.tmp 5) rfl w.heap.size rfl 80 A (0, 0) _ hnew Tryd.underlying80 rfl hAs ?_) | fail)
    refine (HEm.out _).mono ?_
    rintro e w1 ⟨rfl, o1, rfl⟩
    have hK2 : Kp w ((w.alloc (.cells A 80)).alloc o1) gx vt := hK1.trans (Kp.alloc _ _ gx vt)
    have hd2 := hd.alloc o1
    have hset2 := hset.kp hK2 hgx hvg
    have hnew2 : ((w.alloc (.cells A 80)).alloc o1).heap[w.heap.size]? = _ := (Below.heap_alloc _ o1 _ (by simp)).trans hnew
    have hlt2 : w.heap.size < ((w.alloc (.cells A 80)).alloc o1).heap.size := by simp; omega
    clear hnew hd hK1 hset1
    generalize (w.alloc (.cells A 80)).alloc o1 = w1 at hK2 hd2 hset2 hnew2 hlt2 ⊢
    by_cases hemp : pas (cntN z n) 15 = 0
    · have HB : Hid (goal = { σ with why := 1 }) := by show _ = _; rw [HG.out, againF_bad (Or.inr hemp)]
      clear HG HEm HDi hset2 hset
      go_wp2_with fail
      refine (wrong_any _).mono ?_
      rintro e w4 ⟨rfl, rfl⟩
      rw [endOf_bad (by omega)]
      go_wp2
      rw [HB.out]
      exact ⟨rfl, rfl, vt, hd2.congr rfl rfl, hK2, fun _ hg => Or.inl hg⟩
    · have hemp' : decide (pas (cntN z n) 15 = 0) = false := by rw [decide_eq_false_iff_not]; exact hemp
      have HM : Hid (_) := (HG.out).trans (againF_mid (s := s) (σ := σ) (show ¬ (285 < y ∨ pas (cntN z n) 15 = 0) by omega))
      have pm := pairM_le y hy1 (by omega)
      have pn := pairN_le y (by omega)
      have HL : Hid (_) := length_any B gx y s σ vt fx w1 hd2 hs hf.pos hy hy1 (by omega)
      have f2 := hf.num (pairM y)
      have nb := numF_lt s (pairM y) σ
      have nb8 : 2 ^ pairM y ≤ 2 ^ 8 := Nat.pow_le_pow_right (by omega) (by omega)
      have h28 : (2 : Nat) ^ 8 = 256 := rfl
      have nb' : (numF s (pairM y) σ).1 < 256 := by omega
      clear HG HEm hemp nb nb8 h28
      go_wp2_with fail
      refine Calls.mono HL.out ?_
      rintro e w2 ⟨he, h2, k2⟩
      generalize numF s (pairM y) σ = q at he h2 HM f2 nb'
      obtain ⟨a, σ2⟩ := q
      simp only at he h2 f2 nb'
      have K2 := hK2.trans k2
      have hset2' := hset.kp K2 hgx hvg
      have hnew3 := (k2.block w.heap.size hlt2 (by omega) hgv).trans hnew2
      clear hnew2 hd2 hset2 HL k2 hf hy
      by_cases hy2 : σ2.why = 0
      · rw [endOf_ok hy2] at he; subst he
        rw [againMid_eq] at HM
        obtain ⟨N, hN⟩ : ∃ N, N = pairN y + a := ⟨_, rfl⟩
        rw [← hN] at HM ⊢
        have hNb : N ≤ 3000000 := by omega
        clear hN pn pm nb'
        have HD2 : Hid (_) := HDi.out σ2 w2 h2 hs f2 hy2 hset2'
        have f3 : Fit s (distP s (symF s (codeT z n) n σ2)).2 := Fit.distP f2.symF
        have hbd := fun hh => distP_bd (s := s) (k := symF s (codeT z n) n σ2) hh (distP_fst hset.tidy σ2 hh)
        clear HDi
        go_wp2_with (first | (refine wpList_load_row rfl 80 (.tmp 5) rfl w.heap.size rfl 80 A (0, 0) _ hnew3 Tryd.underlying80 rfl hAs ?_) | fail)
        refine Calls.mono HD2.out ?_
        rintro e w3 ⟨he, h3, k3⟩
        have K3 := K2.trans k3
        clear k3 K2 h2 HD2 hnew3 hset2' f2
        generalize distP s (symF s (codeT z n) n σ2) = q at he h3 HM f3 hbd
        obtain ⟨bk, σ3⟩ := q
        simp only at he h3 HM f3 hbd
        by_cases hy3 : σ3.why = 0
        · rw [endOf_ok hy3] at he; subst he
          obtain ⟨hbk1, hbk2⟩ := hbd hy3
          obtain ⟨ao, cap, hvt⟩ := rd_text h3
          have c3 := h3.c3
          rw [hvt] at c3
          have ht := f3.text
          obtain ⟨T, hT⟩ : ∃ T, T = σ3.text.length := ⟨_, rfl⟩
          rw [← hT] at c3
          clear hbd
          by_cases hfar : σ3.text.length < bk
          · have HE : Hid (goal = { σ3 with why := 1 }) := by show _ = _; rw [HM.out, pairEnd_far hy3 hfar]
            have d2 : decide ((T : Int) < (bk : Int)) = true := by rw [decide_eq_true_iff]; omega
            clear HM
            go_wp2_with fail
            refine (wrong_any _).mono ?_
            rintro e w4 ⟨rfl, rfl⟩
            rw [endOf_bad (by omega)]
            go_wp2
            rw [HE.out]
            exact ⟨rfl, rfl, vt, h3.congr rfl rfl, K3, fun _ hg => Or.inl hg⟩
          · have d2 : decide ((T : Int) < (bk : Int)) = false := by rw [decide_eq_false_iff_not]; omega
            have HFi : Hid (_) := fits_any B gx N s σ3 vt fx w3 h3 ht
            go_wp2_with fail
            refine Calls.mono HFi.out ?_
            rintro e w4 ⟨he, rfl⟩
            clear HFi
            by_cases hlong : 5000 < σ3.text.length + N
            · have HE : Hid (goal = { σ3 with why := 3 }) := by show _ = _; rw [HM.out, pairEnd_long hy3 hfar hlong]
              have hr : roomY σ3 N = 3 := by unfold roomY; rw [if_pos hlong]
              rw [hr, endOf_bad (by omega)] at he
              subst he
              clear HM
              go_wp2
              rw [HE.out]
              exact ⟨rfl, rfl, vt, h3.congr rfl rfl, K3, fun _ hg => Or.inl hg⟩
            · have hr : roomY σ3 N = 0 := by unfold roomY; rw [if_neg hlong]
              rw [hr, endOf_ok rfl] at he
              subst he
              have R0 : GCR B w w4 gx s vt fx bk N σ3 goal := ⟨⟨vt, h3, K3, fun _ hg => Or.inl hg⟩, hy3, hbk1, by omega, by omega, by rw [HM.out, pairEnd_copy hy3 hfar hlong]⟩
              clear HM hvt c3 h3 K3 f3 ht hT d2 hfar hlong hr hset
              go_wp2_with fail
              go_loopw [33] (fun i wr => ∃ (j k : Nat) (σ5 : St), j + k = N ∧ i = .int .i64 (j : Nat) ∧ GCR B w wr gx s vt fx bk k σ5 goal) (fun i _ => N - (intOf i).toNat)
              case atStart => exact ⟨0, N, σ3, by omega, rfl, R0⟩
              case round =>
                clear R0
                obtain ⟨jj, k, σ5, hjk, rfl, hrel⟩ := hrel
                obtain ⟨vt', hstr, hkp, hfr⟩ := hrel.runs
                have hrm := hrel.room
                have hfa := hrel.far
                by_cases hk : 0 < k
                · obtain ⟨k1, rfl⟩ : ∃ k1, k = k1 + 1 := ⟨k - 1, by omega⟩
                  obtain ⟨gt, cp5, hvt⟩ := rd_text1 hstr (by omega)
                  have c3 := hstr.c3
                  have f3 := hstr.fz 3
                  have hown := hstr.own
                  rw [hvt] at c3 hown
                  have hcell := hown.cells (g := gt) rfl (σ5.text.length - bk) _ (byteVals_get σ5.text (σ5.text.length - bk) (by omega))
                  have HST : Hid (_) := fun w4 => gcr_step (w4 := w4) hrel hkp hfr
                  generalize hcv : σ5.text.getD (σ5.text.length - bk) 0 = cv at hcell HST
                  obtain ⟨T, hT⟩ : ∃ T, T = σ5.text.length := ⟨_, rfl⟩
                  obtain ⟨j, hj⟩ : ∃ j, j = T - bk := ⟨_, rfl⟩
                  rw [← hT] at c3 hown hcell hrm hfa
                  rw [← hj] at hcell
                  have hjI : (T : Int) - (bk : Int) = (j : Int) := by omega
                  have hj1 : j < T := by omega
                  have hj2 : (j : Int) < (T : Int) := by omega
                  rw [addr_add0] at hcell
                  have hjN : jj < N := by omega
                  have hjN2 : (jj : Int) < (N : Int) := by omega
                  have HT : Hid (T = σ5.text.length) := hT
                  have HGr : Hid (_) := hstr
                  have HV : Hid (_) := hvt
                  have c3a : (wr.alloc (.cells #[.int .u8 (cv.toNat : Int)] 5)).cell? ⟨gx, 3, none⟩ = some (.slice (some ⟨gt, 0, none⟩) T cp5) := by
                    have e := (hstr.row.of_block (Below.heap_alloc wr (.cells #[.int .u8 (cv.toNat : Int)] 5) gx hstr.row.lt)).cell (i := 3) (by omega)
                    rw [hT, ← hvt]
                    simpa using e
                  have hwr : IntKind.i64.wrap (j : Int) = (j : Int) := by rw [IntKind.wrap_i64]; omega
                  have hBw := hstr.le
                  have hBl := hstr.row.lt
                  clear hk hj hcv hrel hkp hT hstr hvt
                  go_wp2_with fail
                  go_region_law (
                    refine step_append1 rfl (.tmp 39) (.tmp 53) 32 rfl B 5 (.int .u8 0) 1 Tryd.underlying32 Tryd.info5 rfl (.slice (some ⟨gt, 0, none⟩) T cp5) T _ (.int .u8 (cv.toNat : Int)) (by simp [Act.eval]) rfl wr.heap.size 1 (by simp [Act.eval]) (by simp) (hown.alloc _).drew (by simp; omega) (by unfold maxLen; omega) (by omega) ?_
                    intro g' cap' w5 ho hd hg
                    obtain ⟨k5, fz5, R5⟩ := again_more HGr.out HV.out HT.out ho (by simpa using hd) hg
                    clear ho hd hg)
                  all_goals
                    go_wp2
                    go_roundw
                    case rel => exact ⟨jj + 1, k1, _, by omega, by go_num, HST.out _ R5⟩
                    case measure => simp [intOf]; omega
                · obtain rfl : k = 0 := by omega
                  obtain rfl : jj = N := by omega
                  obtain ⟨eg, R⟩ := hrel.zero
                  clear hstr hkp hfr hrel
                  go_wp2
                  go_end0
                  rw [endOf_ok eg]
                  exact ⟨rfl, R⟩
        · rw [endOf_bad hy3] at he; subst he
          have HE : Hid (goal = σ3) := by show _ = _; rw [HM.out, pairEnd_dead hy3]
          clear HM
          go_wp2
          rw [HE.out, endOf_bad hy3]
          exact ⟨rfl, rfl, vt, h3, K3, fun _ hg => Or.inl hg⟩
      · rw [endOf_bad hy2] at he; subst he
        have HE : Hid (goal = σ2) := by show _ = _; rw [HM.out, againMid_dead hy2]
        clear HM HDi
        go_wp2
        rw [HE.out, endOf_bad hy2]
        exact ⟨rfl, rfl, vt, h2, K2, fun _ hg => Or.inl hg⟩

end Go.Proofs.YtnfghnolklhppaaDoor
