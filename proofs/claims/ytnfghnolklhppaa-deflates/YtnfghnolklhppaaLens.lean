/- The document's lengths: the walk. -/
import Derived.Test.YtnfghnolklhppaaLensK
import Derived.Deep.RegionWith
namespace Go.Proofs.Ytnfghnolklhppaa
open Go.RowKit

set_option maxRecDepth 4000 in
set_option maxHeartbeats 1000000 in
theorem lengths_any (B gx n many : Nat) (s : ByteArray) (σ : St) (vt : Value) (w : World) (h : Str B w gx s σ vt) (hB : B ≤ w.heap.size) (hs : s.size ≤ 140737488355328) (hf : Fit s σ) (hn1 : 1 ≤ n) (hn : n ≤ 400) (hm : many ≤ 19) :
    Calls Try.prog 48 #[.pointer (some ⟨gx, 0, none⟩), .int .i64 (n : Int), .int .i64 (many : Int)] w fun e w' => LensPost B w gx s vt n (lensF s n many σ) e w' := by
  have hmk : ∀ w : World, (Instr.makeSlice 30 (.int .i64 19) (.int .i64 19)).run Try.prog w = .ok (.slice (some ⟨w.heap.size, 0, none⟩) 19 19) (w.alloc (.cells (madeCells #[.int .i64 0] 19) 3)) :=
    run_make_row' (P := Try.prog) 30 3 (.int .i64 0) 8 Try.underlying30 Try.info3 rfl .i64 .i64 19 (by omega) (by omega)
  go_enter Try.func48, Try.ntmps48
  go_wp2_with fail
  refine (order_any _).mono ?_
  rintro e w1 ⟨rfl, ho1, hb1⟩
  have hsz : (w.alloc (.cells (madeCells #[.int .i64 0] 19) 3)).heap.size = w.heap.size + 1 := by simp
  rw [hsz] at ho1 hb1 ⊢
  have A1 : Below w.heap.size w w1 := ((Below.refl _ _).alloc (Nat.le_refl _) _).trans (hb1.mono (by omega))
  have aw : Off w gx vt w.heap.size := h.off (Nat.le_refl _)
  have ao : Off w gx vt (w.heap.size + 1) := h.off (by omega)
  have R0 : HR B w w1 gx s vt w.heap.size (w.heap.size + 1) many 0 (fun _ => 0) σ (headGo s many 0 (fun _ => 0) σ) :=
    ⟨h.later A1, (Kp.refl w gx vt).later A1, hf, (World.rowIs_made w (.int .i64 0) 19 3).of_block (hb1.block _ (by omega)), ho1, rfl⟩
  have HG : Hid (lensF s n many σ = lensTail s n (headGo s many 0 (fun _ => 0) σ)) := rfl
  have HGL : Hid (∀ j, (headGo s many 0 (fun _ => 0) σ).1 j < 8) := headGo_lt s many 0 _ σ (fun _ => by omega)
  have HB : Hid (B ≤ w.heap.size) := hB
  have HS : Hid (Str B w gx s σ vt) := h
  generalize headGo s many 0 (fun _ => 0) σ = goal at R0 HG HGL
  obtain ⟨gw, hgw⟩ : ∃ gw, gw = w.heap.size := ⟨_, rfl⟩
  rw [← hgw] at aw ao R0 ⊢
  have HGW : Hid (gw = w.heap.size) := hgw
  clear ho1 hb1 hsz A1 hmk h hB hf hgw
  go_wp2_with fail
  go_loopw [9] (fun i wr => ∃ (k : Nat) (f : Nat → Nat) (σ1 : St), k ≤ many ∧ i = .int .i64 (k : Nat) ∧ HR B w wr gx s vt gw (gw + 1) (many - k) k f σ1 goal) (fun i _ => many - (intOf i).toNat)
  case atStart => exact ⟨0, _, σ, by omega, rfl, R0⟩
  case round =>
    clear R0
    obtain ⟨k, f, σ1, hk, rfl, hrel⟩ := hrel
    by_cases hlt : k < many
    · obtain ⟨r, hr⟩ : ∃ r, many - k = r + 1 := ⟨many - k - 1, by omega⟩
      rw [hr] at hrel
      have hnl := numF_lt s 3 σ1
      have hol := ordN_lt k (by omega)
      have co := hrel.ord.cell (show k < 19 by omega)
      have i1 : (k : Int) < 19 := by omega
      have i2 : (ordN k : Int) < 19 := by omega
      have hst : Str B wr.drew gx s σ1 vt := hrel.str.drewN 1
      have hfit := hrel.fit
      have HR1 : Hid (∀ w2, Str B w2 gx s (numF s 3 σ1).2 vt → Kp wr.drew w2 gx vt → _) := fun w2 a b => hr_step (w2 := w2) hrel aw ao (by omega) a ⟨b.os, b.tape, b.output, b.size, b.block⟩
      have HRR : Hid (r = many - (k + 1)) := by show _ = _; omega
      clear hr hrel aw ao
      go_wp2_with fail
      go_region_with (go_at_call 30; refine (number_any B gx 3 s σ1 vt _ hst hs hfit.pos (by omega)).mono ?_; rintro e w2 ⟨rfl, h2, k2⟩; obtain ⟨q1, q2, q3⟩ := HR1.out w2 h2 k2; have cw := q1.cell (i := ordN k) hol; have fw := q1.frozen (ordN k); have co2 := q2.cell (show k < 19 by omega); clear q1 q2 h2 k2)
      all_goals
        go_wp2
        go_roundw
        case rel => exact ⟨k + 1, _, _, by omega, by go_num, by rw [← HRR.out]; exact q3⟩
        case measure => simp [intOf]; omega
    · obtain rfl : k = many := by omega
      rw [Nat.sub_self] at hrel
      have heq := hrel.eq
      simp only [headGo] at heq
      have hgl : ∀ j, f j < 8 := by have e := HGL.out; rw [← heq] at e; exact e
      have HT : Hid (lensF s n k σ = lensTail s n (f, σ1)) := by show _ = _; rw [HG.out, ← heq]
      have hI : IntsAt wr gw 0 19 (headZ f) := ⟨fun i hi => by rw [Nat.zero_add]; exact hrel.ow.cell hi, hrel.ow.lt⟩
      have hrg : ∀ i, i < 19 → 0 ≤ headZ f i ∧ headZ f i ≤ 15 := fun i _ => by have := hgl i; unfold headZ; omega
      have hks := ks0_le (headZ f) 19
      have hstr := hrel.str
      have hkp := hrel.kp
      have hfit := hrel.fit
      clear heq hrel HG HGL ao hlt hk
      go_wp2_with fail
      refine (rleft_any gw 0 19 19 (headZ f) _ hI (by omega) hrg).mono ?_
      rintro e w2 ⟨rfl, rfl⟩
      generalize hKK : ks0 (headZ f) 19 = K at hks HT ⊢
      have d3 := hstr.c3
      have lhs : Hid (lensTail s n (f, σ1) = if σ1.why ≠ 0 then ([], σ1) else if K ≠ 32768 then ([], stopF σ1 1) else lenGo s (codeT (headZ f) 19) n (n + 1) [] σ1) := by
        show _ = _
        rw [← hKK]; rfl
      by_cases hy : σ1.why = 0
      · have e3 : ((σ1.why : Int) == 0) = true := by rw [beq_iff_eq]; omega
        by_cases hK : K = 32768
        · have e1 : ((32768 : Int) - (K : Int) != 0) = false := by rw [bne_eq_false_iff_eq]; omega
          have e3' : ((σ1.why : Int) != 0) = false := by rw [bne_eq_false_iff_eq]; omega
          have HF : Hid (lensF s n k σ = lenGo s (codeT (headZ f) 19) n (n + 1) [] σ1) := by
            show _ = _
            rw [HT.out, lhs.out, if_neg (by omega), if_neg (by omega)]
          have hkr : kr (cntN (headZ f) 19) 15 ≤ 32768 := by rw [kr_ks0 _ _ hrg, hKK]; omega
          have hcs : ∀ i, i < 19 → (codeT (headZ f) 19 i).size ≤ 15 := fun i hi => codeT_most _ _ _ (hrg i hi)
          clear hK hy HT lhs hKK
          go_wp2_with fail
          refine (rcodes_any gw 0 19 19 (headZ f) _ hI (by omega) hrg hkr).mono ?_
          rintro e w3 ⟨rfl, hr3, hb3⟩
          have hBl := hr3.lt
          have hst := HS.out
          have hs2 := hkp.size
          have li : Lie w gx vt w3.heap.size w2.heap.size := ⟨Nat.le_trans hs2 hb3.size, hst.off hs2, hBl, Nat.lt_of_lt_of_le hstr.row.lt hb3.size, fun g hg => Nat.lt_of_lt_of_le (hstr.vlt g hg) hb3.size⟩
          have E0 : ER B w w3 gx s vt w3.heap.size w2.heap.size (codeT (headZ f) 19) (.slice none 0 0) [] σ1 := ⟨hstr.later hb3, hkp.later hb3, hfit, World.ownsRow_nil _ _ _ _, hr3, Nat.le_refl _⟩
          generalize codeT (headZ f) 19 = c at HF hcs hr3 E0
          have HF' : Hid (lenGo s c n (n + 1) [] σ1 = (lensF s n k σ)) := by show _ = _; rw [HF.out]
          generalize w3.heap.size = Bl at li E0
          generalize w2.heap.size = gc at li E0 hr3 ⊢
          clear hr3 hb3 hBl hst hs2 hkr hrg hI hstr hkp hfit HS HB HGW aw d3 e1 e3 e3' hks HF
          go_wp2_with fail
          go_loopg [12, 13, 14, 15] (n + 1) (fun fu v _ _ _ wr => ∃ (L : List Int) (σ2 : St), n - L.length + 1 ≤ fu ∧ L.length ≤ n + 138 ∧ lenGo s c n fu L σ2 = (lensF s n k σ) ∧ ER B w wr gx s vt Bl gc c v L σ2)
          case atStart => exact ⟨[], σ1, by simp, by simp, HF'.out, E0⟩
          case round =>
            clear E0 HF'
            obtain ⟨L, σ2, hfu, hmost, heq, hrel⟩ := hrel
            have d3 := hrel.str.c3
            obtain ⟨ao, cp, hv⟩ := er_form hrel
            obtain ⟨N, hN⟩ : ∃ N, N = L.length := ⟨_, rfl⟩
            have hmN : N ≤ n + 138 := by omega
            rw [← hN] at hv
            subst hv
            have HN : Hid (N = L.length) := hN
            by_cases hgo : L.length < n ∧ σ2.why = 0
            · have e3 : ((σ2.why : Int) == 0) = true := by rw [beq_iff_eq]; omega
              have hNn : N < n := by omega
              have dN : decide ((N : Int) < (n : Int)) = true := by rw [decide_eq_true_iff]; omega
              clear hN
              go_wp2_with fail
              refine (symbol_any B gx gc 19 19 s c σ2 vt _ hrel.str hs hrel.fit hrel.row li.c.nx li.c.nv (by omega) hcs).mono ?_
              rintro e w4 ⟨rfl, h4, k4⟩
              have E3 := er_call hrel li h4 k4 hrel.fit.symF
              have hrn := symF_rng (s := s) (c := c) (n := 19) σ2
              have HX : Hid (∀ (T : Nat) (X : Int) (σ4 : St), lenStep s L (symF s c 19 σ2) = (false, T, X, σ4) → _) := fun T X σ4 hst => len_next heq hfu hgo.1 hgo.2 rfl hst
              have HY : Hid (∀ (σ4 : St), lenStep s L (symF s c 19 σ2) = (true, 0, 0, σ4) → _) := fun σ4 hst => len_stop heq hfu hgo.1 hgo.2 rfl hst
              clear h4 k4 hrel heq hgo d3 e3 dN
              generalize symF s c 19 σ2 = q at E3 hrn HX HY ⊢
              obtain ⟨kk, σ3⟩ := q
              simp only at E3 hrn HX HY ⊢
              by_cases c1 : kk < 16
              · have d1 : decide (kk < 16) = true := by rw [decide_eq_true_iff]; exact c1
                obtain ⟨T, hT⟩ : ∃ T : Nat, T = 1 := ⟨_, rfl⟩
                obtain ⟨hf1, x1, x2, x3⟩ := HX.out T kk σ3 (by rw [hT]; unfold lenStep; rw [if_pos c1])
                have HNX : Hid (∀ v wq, ER B w wq gx s vt Bl gc c v (L ++ List.replicate T kk) σ3 → ∃ (L : List Int) (σ2 : St), n - L.length + 1 ≤ gk - 1 ∧ L.length ≤ n + 138 ∧ lenGo s c n (gk - 1) L σ2 = (lensF s n k σ) ∧ ER B w wq gx s vt Bl gc c v L σ2) := fun v wq hh => ⟨_, _, x1, x2, x3, hh⟩
                have HTT : Hid (T = 1) := hT
                have hTb : T ≤ 138 := by omega
                clear x1 x2 x3 HX HY hT
                clear c1
                go_wp2_with fail
                go_loopw [12, 15] (fun v i wq => ∃ (t : Nat) (L2 : List Int), t ≤ T ∧ i = .int .i64 (t : Nat) ∧ L2 = L ++ List.replicate (T - t) kk ∧ ER B w wq gx s vt Bl gc c v L2 σ3) (fun _ i _ => (intOf i).toNat)
                case atStart => exact ⟨T, L, Nat.le_refl _, by have := HTT.out; go_num, by rw [Nat.sub_self]; simp, E3⟩
                case round =>
                  clear E3
                  obtain ⟨t, L2, ht, rfl, hL2, hrel⟩ := hrel
                  have hlen : L2.length = L.length + (T - t) := by rw [hL2, List.length_append, List.length_replicate]
                  obtain ⟨N2, hN2⟩ : ∃ N2, N2 = L2.length := ⟨_, rfl⟩
                  have hown := hrel.own
                  have hbl := hrel.bl
                  have hNL := HN.out
                  have hN2b : N2 ≤ n + 276 := by omega
                  rw [← hN2] at hown
                  by_cases ht0 : 0 < t
                  · have HM : Hid (_) := fun (g' cap' : Nat) (w2 : World) (o : Obj) => er_more (w2 := w2) (g' := g') (cap' := cap') (o := o) (x := kk) hrel li hN2
                    have HL : Hid (L2 ++ [kk] = L ++ List.replicate (T - (t - 1)) kk) := by
                      show _ = _
                      rw [hL2, show T - (t - 1) = (T - t) + 1 from by omega, List.replicate_succ', List.append_assoc]
                    clear hN2 hL2 hrel hlen hNL
                    go_wp2_with (first | (at_builtin; refine wpList_append1s wr rfl (.tmp 99) (.tmp 101) 30 rfl Bl 3 (.int .i64 0) 8 Try.underlying30 Try.info3 rfl u12 N2 _ (.int .i64 kk) rfl rfl wr.heap.size rfl rfl hown hbl (by unfold maxLen; omega) (by omega) ?_) | fail)
                    intro g' cap' w2 ho hd hg
                    have R := HM.out g' cap' w2 _ ho hg
                    clear ho hd hg HM hown
                    go_wp2
                    go_roundw
                    case rel => exact ⟨t - 1, _, by omega, by go_num, HL.out, R⟩
                    case measure => simp [intOf]; omega
                  · obtain rfl : t = 0 := by omega
                    have R := HNX.out u12 wr (by rw [Nat.sub_zero] at hL2; rw [← hL2]; exact hrel)
                    clear hrel hL2 hN2 hown HNX hNL hlen
                    go_wp2
                    go_roundg (gk - 1)
                    case measure => omega
                    case rel => exact R
              · have d1 : decide (kk < 16) = false := by rw [decide_eq_false_iff_not]; exact c1
                have HC1 : Hid (¬ kk < 16) := c1
                by_cases c2 : kk = 16
                · have d2 : (kk == 16) = true := by rw [beq_iff_eq]; exact c2
                  have HC2 : Hid (kk = 16) := c2
                  by_cases c3 : N = 0
                  · have HE := HY.out (stopF σ3 1) (by unfold lenStep; rw [if_neg (by have := HC1.out; omega), if_pos HC2.out, if_pos (by rw [← HN.out]; exact c3)])
                    clear HX HY
                    subst c3
                    go_wp2_with fail
                    refine (stops_any B gx 1 s σ3 vt _ E3.str).mono ?_
                    rintro e w5 ⟨rfl, h5, k5⟩
                    have P : LensPost B w gx s vt n (lensF s n k σ) (.returned (.slice none 0 0)) w5 := ⟨_, rfl, by rw [HE]; exact h5, E3.kp.trans k5, fun hz => absurd (by rw [HE] at hz; exact hz) (stopF_why (by omega))⟩
                    clear HE h5 k5 E3 c2
                    go_wp2
                    go_ret
                    exact P
                  · have hL1 : 1 ≤ L.length := by have := HN.out; omega
                    obtain ⟨g, cp2, hv2, hg2, hcp2, hI2⟩ := er_form1 E3 hL1
                    obtain ⟨rfl, rfl⟩ : ao = some ⟨g, 0, none⟩ ∧ cp = cp2 := by simpa [HN.out] using hv2
                    have hc16 := hI2.cell (N - 1) (by have := HN.out; omega)
                    rw [Nat.zero_add] at hc16
                    obtain ⟨X, hX⟩ : ∃ X, X = L.getD (N - 1) 0 := ⟨_, rfl⟩
                    rw [← hX] at hc16
                    obtain ⟨N1, hN1⟩ : ∃ N1, N1 = N - 1 := ⟨_, rfl⟩
                    rw [← hN1] at hc16
                    have hNI : (N : Int) - 1 = (N1 : Int) := by omega
                    have hN1b : (N1 : Int) < (N : Int) := by omega
                    have e0 : ((N : Int) == 0) = false := by rw [beq_eq_false_iff_ne]; omega
                    have HXE : Hid (L.getD (L.length - 1) 0 = X) := by show _ = _; rw [hX, HN.out]
                    have HC3 : Hid (¬ L.length = 0) := by show ¬ _; omega
                    clear hX hN1 hv2 hI2 c3
                    have hnb := numF_lt s 2 σ3
                    have h2p : (2 : Nat) ^ 2 = 4 := rfl
                    rw [h2p] at hnb
                    clear h2p
                    go_wp2_with fail
                    refine (number_any B gx 2 s σ3 vt _ E3.str hs E3.fit.pos (by omega)).mono ?_
                    rintro e w5 ⟨rfl, h5, k5⟩
                    have E4 := er_call E3 li h5 k5 (E3.fit.num 2)
                    have hstep : lenStep s L (kk, σ3) = (false, (numF s 2 σ3).1 + 3, X, (numF s 2 σ3).2) := by unfold lenStep; rw [if_neg (by have := HC1.out; omega), if_pos HC2.out, if_neg HC3.out, HXE.out]
                    generalize numF s 2 σ3 = q5 at E4 hnb hstep ⊢
                    obtain ⟨am, σ4⟩ := q5
                    simp only at E4 hnb hstep ⊢
                    clear h5 k5 E3
                    obtain ⟨T, hT⟩ : ∃ T : Nat, T = (am + 3) := ⟨_, rfl⟩
                    obtain ⟨hf1, x1, x2, x3⟩ := HX.out T X σ4 (by rw [hT]; exact hstep)
                    have HNX : Hid (∀ v wq, ER B w wq gx s vt Bl gc c v (L ++ List.replicate T X) σ4 → ∃ (L : List Int) (σ2 : St), n - L.length + 1 ≤ gk - 1 ∧ L.length ≤ n + 138 ∧ lenGo s c n (gk - 1) L σ2 = (lensF s n k σ) ∧ ER B w wq gx s vt Bl gc c v L σ2) := fun v wq hh => ⟨_, _, x1, x2, x3, hh⟩
                    have HTT : Hid (T = (am + 3)) := hT
                    have hTb : T ≤ 138 := by omega
                    clear x1 x2 x3 HX HY hT
                    clear hstep
                    go_wp2_with fail
                    go_loopw [12, 15] (fun v i wq => ∃ (t : Nat) (L2 : List Int), t ≤ T ∧ i = .int .i64 (t : Nat) ∧ L2 = L ++ List.replicate (T - t) X ∧ ER B w wq gx s vt Bl gc c v L2 σ4) (fun _ i _ => (intOf i).toNat)
                    case atStart => exact ⟨T, L, Nat.le_refl _, by have := HTT.out; go_num, by rw [Nat.sub_self]; simp, E4⟩
                    case round =>
                      clear E4
                      obtain ⟨t, L2, ht, rfl, hL2, hrel⟩ := hrel
                      have hlen : L2.length = L.length + (T - t) := by rw [hL2, List.length_append, List.length_replicate]
                      obtain ⟨N2, hN2⟩ : ∃ N2, N2 = L2.length := ⟨_, rfl⟩
                      have hown := hrel.own
                      have hbl := hrel.bl
                      have hNL := HN.out
                      have hN2b : N2 ≤ n + 276 := by omega
                      rw [← hN2] at hown
                      by_cases ht0 : 0 < t
                      · have HM : Hid (_) := fun (g' cap' : Nat) (w2 : World) (o : Obj) => er_more (w2 := w2) (g' := g') (cap' := cap') (o := o) (x := X) hrel li hN2
                        have HL : Hid (L2 ++ [X] = L ++ List.replicate (T - (t - 1)) X) := by
                          show _ = _
                          rw [hL2, show T - (t - 1) = (T - t) + 1 from by omega, List.replicate_succ', List.append_assoc]
                        clear hN2 hL2 hrel hlen hNL
                        go_wp2_with (first | (at_builtin; refine wpList_append1s wr rfl (.tmp 99) (.tmp 101) 30 rfl Bl 3 (.int .i64 0) 8 Try.underlying30 Try.info3 rfl u12 N2 _ (.int .i64 X) rfl rfl wr.heap.size rfl rfl hown hbl (by unfold maxLen; omega) (by omega) ?_) | fail)
                        intro g' cap' w2 ho hd hg
                        have R := HM.out g' cap' w2 _ ho hg
                        clear ho hd hg HM hown
                        go_wp2
                        go_roundw
                        case rel => exact ⟨t - 1, _, by omega, by go_num, HL.out, R⟩
                        case measure => simp [intOf]; omega
                      · obtain rfl : t = 0 := by omega
                        have R := HNX.out u12 wr (by rw [Nat.sub_zero] at hL2; rw [← hL2]; exact hrel)
                        clear hrel hL2 hN2 hown HNX hNL hlen
                        go_wp2
                        go_roundg (gk - 1)
                        case measure => omega
                        case rel => exact R
                · have d2 : (kk == 16) = false := by rw [beq_eq_false_iff_ne]; exact c2
                  have HC2 : Hid (¬ kk = 16) := c2
                  by_cases c3 : kk = 17
                  · have d3 : (kk == 17) = true := by rw [beq_iff_eq]; exact c3
                    have HC3 : Hid (kk = 17) := c3
                    have hnb := numF_lt s 3 σ3
                    have h2p : (2 : Nat) ^ 3 = 8 := rfl
                    rw [h2p] at hnb
                    clear h2p
                    go_wp2_with fail
                    refine (number_any B gx 3 s σ3 vt _ E3.str hs E3.fit.pos (by omega)).mono ?_
                    rintro e w5 ⟨rfl, h5, k5⟩
                    have E4 := er_call E3 li h5 k5 (E3.fit.num 3)
                    have hstep : lenStep s L (kk, σ3) = (false, (numF s 3 σ3).1 + 3, 0, (numF s 3 σ3).2) := by unfold lenStep; rw [if_neg (by have := HC1.out; omega), if_neg HC2.out, if_pos HC3.out]
                    generalize numF s 3 σ3 = q5 at E4 hnb hstep ⊢
                    obtain ⟨am, σ4⟩ := q5
                    simp only at E4 hnb hstep ⊢
                    clear h5 k5 E3
                    obtain ⟨T, hT⟩ : ∃ T : Nat, T = (am + 3) := ⟨_, rfl⟩
                    obtain ⟨hf1, x1, x2, x3⟩ := HX.out T 0 σ4 (by rw [hT]; exact hstep)
                    have HNX : Hid (∀ v wq, ER B w wq gx s vt Bl gc c v (L ++ List.replicate T 0) σ4 → ∃ (L : List Int) (σ2 : St), n - L.length + 1 ≤ gk - 1 ∧ L.length ≤ n + 138 ∧ lenGo s c n (gk - 1) L σ2 = (lensF s n k σ) ∧ ER B w wq gx s vt Bl gc c v L σ2) := fun v wq hh => ⟨_, _, x1, x2, x3, hh⟩
                    have HTT : Hid (T = (am + 3)) := hT
                    have hTb : T ≤ 138 := by omega
                    clear x1 x2 x3 HX HY hT
                    clear hstep
                    go_wp2_with fail
                    go_loopw [12, 15] (fun v i wq => ∃ (t : Nat) (L2 : List Int), t ≤ T ∧ i = .int .i64 (t : Nat) ∧ L2 = L ++ List.replicate (T - t) 0 ∧ ER B w wq gx s vt Bl gc c v L2 σ4) (fun _ i _ => (intOf i).toNat)
                    case atStart => exact ⟨T, L, Nat.le_refl _, by have := HTT.out; go_num, by rw [Nat.sub_self]; simp, E4⟩
                    case round =>
                      clear E4
                      obtain ⟨t, L2, ht, rfl, hL2, hrel⟩ := hrel
                      have hlen : L2.length = L.length + (T - t) := by rw [hL2, List.length_append, List.length_replicate]
                      obtain ⟨N2, hN2⟩ : ∃ N2, N2 = L2.length := ⟨_, rfl⟩
                      have hown := hrel.own
                      have hbl := hrel.bl
                      have hNL := HN.out
                      have hN2b : N2 ≤ n + 276 := by omega
                      rw [← hN2] at hown
                      by_cases ht0 : 0 < t
                      · have HM : Hid (_) := fun (g' cap' : Nat) (w2 : World) (o : Obj) => er_more (w2 := w2) (g' := g') (cap' := cap') (o := o) (x := 0) hrel li hN2
                        have HL : Hid (L2 ++ [0] = L ++ List.replicate (T - (t - 1)) 0) := by
                          show _ = _
                          rw [hL2, show T - (t - 1) = (T - t) + 1 from by omega, List.replicate_succ', List.append_assoc]
                        clear hN2 hL2 hrel hlen hNL
                        go_wp2_with (first | (at_builtin; refine wpList_append1s wr rfl (.tmp 99) (.tmp 101) 30 rfl Bl 3 (.int .i64 0) 8 Try.underlying30 Try.info3 rfl u12 N2 _ (.int .i64 0) rfl rfl wr.heap.size rfl rfl hown hbl (by unfold maxLen; omega) (by omega) ?_) | fail)
                        intro g' cap' w2 ho hd hg
                        have R := HM.out g' cap' w2 _ ho hg
                        clear ho hd hg HM hown
                        go_wp2
                        go_roundw
                        case rel => exact ⟨t - 1, _, by omega, by go_num, HL.out, R⟩
                        case measure => simp [intOf]; omega
                      · obtain rfl : t = 0 := by omega
                        have R := HNX.out u12 wr (by rw [Nat.sub_zero] at hL2; rw [← hL2]; exact hrel)
                        clear hrel hL2 hN2 hown HNX hNL hlen
                        go_wp2
                        go_roundg (gk - 1)
                        case measure => omega
                        case rel => exact R
                  · have d3 : (kk == 17) = false := by rw [beq_eq_false_iff_ne]; exact c3
                    have HC3 : Hid (¬ kk = 17) := c3
                    have hnb := numF_lt s 7 σ3
                    have h2p : (2 : Nat) ^ 7 = 128 := rfl
                    rw [h2p] at hnb
                    clear h2p
                    go_wp2_with fail
                    refine (number_any B gx 7 s σ3 vt _ E3.str hs E3.fit.pos (by omega)).mono ?_
                    rintro e w5 ⟨rfl, h5, k5⟩
                    have E4 := er_call E3 li h5 k5 (E3.fit.num 7)
                    have hstep : lenStep s L (kk, σ3) = (false, (numF s 7 σ3).1 + 11, 0, (numF s 7 σ3).2) := by unfold lenStep; rw [if_neg (by have := HC1.out; omega), if_neg HC2.out, if_neg HC3.out]
                    generalize numF s 7 σ3 = q5 at E4 hnb hstep ⊢
                    obtain ⟨am, σ4⟩ := q5
                    simp only at E4 hnb hstep ⊢
                    clear h5 k5 E3
                    obtain ⟨T, hT⟩ : ∃ T : Nat, T = (am + 11) := ⟨_, rfl⟩
                    obtain ⟨hf1, x1, x2, x3⟩ := HX.out T 0 σ4 (by rw [hT]; exact hstep)
                    have HNX : Hid (∀ v wq, ER B w wq gx s vt Bl gc c v (L ++ List.replicate T 0) σ4 → ∃ (L : List Int) (σ2 : St), n - L.length + 1 ≤ gk - 1 ∧ L.length ≤ n + 138 ∧ lenGo s c n (gk - 1) L σ2 = (lensF s n k σ) ∧ ER B w wq gx s vt Bl gc c v L σ2) := fun v wq hh => ⟨_, _, x1, x2, x3, hh⟩
                    have HTT : Hid (T = (am + 11)) := hT
                    have hTb : T ≤ 138 := by omega
                    clear x1 x2 x3 HX HY hT
                    clear hstep
                    go_wp2_with fail
                    go_loopw [12, 15] (fun v i wq => ∃ (t : Nat) (L2 : List Int), t ≤ T ∧ i = .int .i64 (t : Nat) ∧ L2 = L ++ List.replicate (T - t) 0 ∧ ER B w wq gx s vt Bl gc c v L2 σ4) (fun _ i _ => (intOf i).toNat)
                    case atStart => exact ⟨T, L, Nat.le_refl _, by have := HTT.out; go_num, by rw [Nat.sub_self]; simp, E4⟩
                    case round =>
                      clear E4
                      obtain ⟨t, L2, ht, rfl, hL2, hrel⟩ := hrel
                      have hlen : L2.length = L.length + (T - t) := by rw [hL2, List.length_append, List.length_replicate]
                      obtain ⟨N2, hN2⟩ : ∃ N2, N2 = L2.length := ⟨_, rfl⟩
                      have hown := hrel.own
                      have hbl := hrel.bl
                      have hNL := HN.out
                      have hN2b : N2 ≤ n + 276 := by omega
                      rw [← hN2] at hown
                      by_cases ht0 : 0 < t
                      · have HM : Hid (_) := fun (g' cap' : Nat) (w2 : World) (o : Obj) => er_more (w2 := w2) (g' := g') (cap' := cap') (o := o) (x := 0) hrel li hN2
                        have HL : Hid (L2 ++ [0] = L ++ List.replicate (T - (t - 1)) 0) := by
                          show _ = _
                          rw [hL2, show T - (t - 1) = (T - t) + 1 from by omega, List.replicate_succ', List.append_assoc]
                        clear hN2 hL2 hrel hlen hNL
                        go_wp2_with (first | (at_builtin; refine wpList_append1s wr rfl (.tmp 99) (.tmp 101) 30 rfl Bl 3 (.int .i64 0) 8 Try.underlying30 Try.info3 rfl u12 N2 _ (.int .i64 0) rfl rfl wr.heap.size rfl rfl hown hbl (by unfold maxLen; omega) (by omega) ?_) | fail)
                        intro g' cap' w2 ho hd hg
                        have R := HM.out g' cap' w2 _ ho hg
                        clear ho hd hg HM hown
                        go_wp2
                        go_roundw
                        case rel => exact ⟨t - 1, _, by omega, by go_num, HL.out, R⟩
                        case measure => simp [intOf]; omega
                      · obtain rfl : t = 0 := by omega
                        have R := HNX.out u12 wr (by rw [Nat.sub_zero] at hL2; rw [← hL2]; exact hrel)
                        clear hrel hL2 hN2 hown HNX hNL hlen
                        go_wp2
                        go_roundg (gk - 1)
                        case measure => omega
                        case rel => exact R
            · have HE : Hid ((lensF s n k σ) = (L, if n < L.length then stopF σ2 1 else σ2)) := len_end heq (by omega) hgo
              clear heq
              by_cases hlong : n < L.length
              · have dN : decide ((N : Int) < (n : Int)) = false := by rw [decide_eq_false_iff_not]; omega
                have dN2 : decide ((n : Int) < (N : Int)) = true := by rw [decide_eq_true_iff]; omega
                have HE2 : Hid ((lensF s n k σ) = (L, stopF σ2 1)) := by show _ = _; rw [HE.out, if_pos hlong]
                have hNn : n < N := by omega
                clear HE hN hgo hlong
                go_wp2_with fail
                refine (stops_any B gx 1 s σ2 vt _ hrel.str).mono ?_
                rintro e w5 ⟨rfl, h5, k5⟩
                have P : LensPost B w gx s vt n (lensF s n k σ) (.returned (.slice ao N cp)) w5 := ⟨_, rfl, by rw [HE2.out]; exact h5, hrel.kp.trans k5, fun hz => absurd (by rw [HE2.out] at hz; exact hz) (stopF_why (by omega))⟩
                clear HE2 h5 k5 hrel
                go_wp2
                go_ret
                exact P
              · have dN2 : decide ((n : Int) < (N : Int)) = false := by rw [decide_eq_false_iff_not]; omega
                have P : LensPost B w gx s vt n (lensF s n k σ) (.returned (.slice ao N cp)) wr := by
                  refine ⟨_, rfl, by rw [HE.out, if_neg hlong]; exact hrel.str, hrel.kp, fun hz => ?_⟩
                  have hz2 : σ2.why = 0 := by rw [HE.out, if_neg hlong] at hz; exact hz
                  have hLn : L.length = n := by omega
                  obtain ⟨g, cp2, hv2, hg2, hcp2, hI2⟩ := er_form1 hrel (by omega)
                  rw [hLn] at hv2 hcp2 hI2
                  refine ⟨g, cp2, hv2, Nat.le_trans li.le hg2, hcp2, ?_⟩
                  rw [HE.out]
                  exact hI2
                by_cases hlt : N < n
                · have dN : decide ((N : Int) < (n : Int)) = true := by rw [decide_eq_true_iff]; omega
                  have e3 : ((σ2.why : Int) == 0) = false := by rw [beq_eq_false_iff_ne]; omega
                  clear HE hN hgo hlong hrel
                  go_wp2
                  go_ret
                  exact P
                · have dN : decide ((N : Int) < (n : Int)) = false := by rw [decide_eq_false_iff_not]; omega
                  have hle : N ≤ n := by omega
                  clear HE hN hgo hlong hrel
                  go_wp2
                  go_ret
                  exact P
        · have e1 : ((32768 : Int) - (K : Int) != 0) = true := by rw [bne_iff_ne]; omega
          have HF : Hid (lensF s n k σ = ([], stopF σ1 1)) := by
            show _ = _
            rw [HT.out, lhs.out, if_neg (by omega), if_pos (by omega)]
          have hw4 := stopF_why (σ := σ1) (y := 1) (by omega)
          clear hK hy HT lhs hKK
          go_wp2_with fail
          refine (stops_any B gx 1 s σ1 vt _ hstr).mono ?_
          rintro e w4 ⟨rfl, h4, k4⟩
          have P : LensPost B w gx s vt n (lensF s n k σ) (.returned (.slice none 0 0)) w4 := ⟨_, rfl, by rw [HF.out]; exact h4, hkp.trans k4, fun hz => absurd (by rw [HF.out] at hz; exact hz) (stopF_why (by omega))⟩
          have d4 := h4.c3
          generalize stopF σ1 1 = σ4 at d4 hw4
          have e4 : ((σ4.why : Int) != 0) = true := by rw [bne_iff_ne]; omega
          clear HF h4 k4 hstr hkp hw4
          go_wp2
          go_ret
          exact P
      · have e3 : ((σ1.why : Int) == 0) = false := by rw [beq_eq_false_iff_ne]; omega
        have e3' : ((σ1.why : Int) != 0) = true := by rw [bne_iff_ne]; omega
        have P : LensPost B w gx s vt n (lensF s n k σ) (.returned (.slice none 0 0)) w2 := by
          have HF : lensF s n k σ = ([], σ1) := by rw [HT.out, lhs.out, if_pos (by omega)]
          exact ⟨_, rfl, by rw [HF]; exact hstr, hkp, fun hz => absurd (by rw [HF] at hz; exact hz) hy⟩
        clear HT lhs hKK hstr hkp hy
        go_wp2
        go_ret
        exact P

end Go.Proofs.Ytnfghnolklhppaa
