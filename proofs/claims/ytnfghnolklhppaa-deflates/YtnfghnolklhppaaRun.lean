/- The document's Run: a stream, as far as it goes. -/
import Derived.Test.YtnfghnolklhppaaRunK
import Derived.Test.YtnfghnolklhppaaOwnR
namespace Go.Proofs.Ytnfghnolklhppaa
open Go.RowKit

theorem headF_rng {s : ByteArray} {σ : St} (h : (headF s σ).st.why = 0) : (headF s σ).a ≤ 29 ∧ (headF s σ).b ≤ 29 := by
  unfold headF at h ⊢
  generalize numF s 5 σ = A at h ⊢
  have h2 := numF_alive (s := s) 5 (σ := stop29 A)
  generalize numF s 5 (stop29 A) = C at h h2 ⊢
  have h3 := numF_alive (s := s) 4 (σ := stop29 C)
  generalize numF s 4 (stop29 C) = D at h h3 ⊢
  have h4 := stop29_le (h3 h)
  have h5 := stop29_le (h2 (by rw [h4.2] at h3; exact h3 h))
  exact ⟨h5.1, h4.1⟩

theorem ownF_rng {s : ByteArray} {σ : St} (h : (ownF s σ).2.why = 0) : (∀ y ∈ (ownF s σ).1, 0 ≤ y ∧ y ≤ 15) ∧ (headF s σ).a ≤ 29 ∧ (headF s σ).b ≤ 29 := by
  have hh := headF_rng (s := s) (σ := σ)
  unfold ownF at h ⊢
  generalize headF s σ = hd at h hh ⊢
  by_cases c : hd.st.why ≠ 0
  · rw [if_pos c] at h; exact absurd h c
  · rw [if_neg c] at h ⊢
    have h1 : (lensF s (hd.a + hd.b + 258) (hd.c + 4) hd.st).2.why = 0 := by
      have h' : (ownEnd (lensF s (hd.a + hd.b + 258) (hd.c + 4) hd.st) hd.a hd.b).why = 0 := h
      unfold ownEnd at h'
      split at h'
      · exact absurd h' (stopF_why (by omega))
      · exact h'
    exact ⟨(lensF_rng h1).1, hh (by omega)⟩

set_option maxRecDepth 4000 in
set_option maxHeartbeats 1000000 in
theorem run_any (s : ByteArray) (w : World) (hs : s.size ≤ 140737488355328) :
    Calls Try.prog 20 #[.string s] w fun e w' => RunPost w s e w' := by
  have S0 := Str.begin w s
  have HPOST : Hid (∀ w', Runs w.heap.size (w.alloc (.cells #[.string s, .int .i64 0, .slice none 0 0, .int .i64 0, .bool false] 59)) w' w.heap.size s (.slice none 0 0) (runF s) → RunPost w s (.returned (.pointer (some ⟨w.heap.size, 0, none⟩))) w') := fun w' h => run_post h
  go_enter Try.func20, Try.ntmps20
  go_wp2_with fail
  have R0 : RG (w.alloc (.cells #[.string s, .int .i64 0, .slice none 0 0, .int .i64 0, .bool false] 59)) (w.alloc (.cells #[.string s, .int .i64 0, .slice none 0 0, .int .i64 0, .bool false] 59)) w.heap.size s (8 * s.size + 1) start :=
    ⟨⟨by show 0 ≤ _; omega, by show 0 ≤ 5000; omega⟩, Runs.refl S0, by unfold restN; split <;> omega, rfl⟩
  clear S0
  generalize w.alloc (.cells #[.string s, .int .i64 0, .slice none 0 0, .int .i64 0, .bool false] 59) = w1 at R0 HPOST ⊢
  obtain ⟨gx, hgx⟩ : ∃ gx, gx = w.heap.size := ⟨_, rfl⟩
  rw [← hgx] at R0 HPOST ⊢
  clear hgx
  go_loopg [4, 5, 6, 7, 8, 9] (8 * s.size + 1) (fun fu _ _ _ _ _ _ wr => ∃ σ1 : St, RG w1 wr gx s fu σ1)
  case atStart => exact ⟨start, R0⟩
  case round =>
    obtain ⟨σ1, hrel⟩ := hrel
    clear R0
    obtain ⟨vt, hstr, hkp, hfr⟩ := hrel.runs
    have d3 := hstr.c3
    have d4 := hstr.c4
    by_cases hy : σ1.why = 0
    · have e3 : ((σ1.why : Int) == 0) = true := by rw [beq_iff_eq]; omega
      cases hfi : σ1.fin
      · rw [hfi] at d4
        go_wp2_with fail
        refine (bit_any gx gx s σ1 vt _ hstr hs hrel.fit.pos).mono ?_
        rintro e w2 ⟨rfl, h2, k2⟩
        have hbl := bitF_lt s σ1
        have HL : Hid (_) := fun w3 h3 k3 => rg_last (w2 := w3) hrel hy hfi hkp hfr h3 k3
        have HN : Hid (_) := fun w3 k3 hd σ5 w5 vt5 b h5e h5 k5 f5 hb => rg_next (w2 := w3) (σ5 := σ5) (w5 := w5) (vt5 := vt5) (b := b) hrel hy hfi hkp hfr k3 hd h5e h5 k5 f5 hb
        have ft2 := hrel.fit.bit
        generalize bitF s σ1 = q at h2 hbl HL HN ft2 ⊢
        obtain ⟨bv, σ2⟩ := q
        simp only at h2 hbl HL HN ft2 ⊢
        clear hrel hy hfi hkp hfr d3 d4 e3
        have hnl := numF_lt s 2 σ2
        have h22 : (2 : Nat) ^ 2 = 4 := rfl
        rw [h22] at hnl
        clear h22
        go_wp2_with fail
        refine (number_any gx gx 2 s σ2 vt _ h2 hs ft2.pos (by omega)).mono ?_
        rintro e w3 ⟨rfl, h3, k3⟩
        have ft3 : Fit s (numF s 2 σ2).2 := Fit.num 2 ft2
        generalize numF s 2 σ2 = q at h3 hnl HL HN ft3 ⊢
        obtain ⟨kk, σ3⟩ := q
        simp only at h3 hnl HL HN ft3 ⊢
        have k23 := k2.trans k3
        clear h2 k2 k3 ft2
        have d3 := h3.c3
        have hgx3 : gx ≤ w3.heap.size := Nat.le_of_lt h3.row.lt
        by_cases hy3 : σ3.why = 0
        · have e3 : ((σ3.why : Int) != 0) = false := by rw [bne_eq_false_iff_eq]; omega
          have HN2 : Hid (_) := fun σ5 w5 vt5 b h5e h5 k5 f5 hb => HN.out w3 k23 hy3 σ5 w5 vt5 b h5e h5 k5 f5 hb
          clear HL HN hy3 k23
          rcases (by omega : kk = 0 ∨ kk = 1 ∨ kk = 2 ∨ kk = 3) with hk | hk | hk | hk
          · have HBK : Hid (blockF s kk σ3 = plainF s σ3) := by show _ = _; unfold blockF; rw [if_pos hk]
            have t0 : ((kk : Int) == 0) = true := by rw [beq_iff_eq]; omega
            clear hk
            go_wp2_with fail
            refine (plain_any gx gx s σ3 vt _ h3 hgx3 hs ft3).mono ?_
            rintro e w5 ⟨rfl, hr5⟩
            rw [← HBK.out] at hr5
            obtain ⟨vt5, h5, k5, f5⟩ := hr5
            have HE5 : Hid (_) := fun (b : Bool) => HN2.out _ w5 vt5 b rfl h5 k5 f5
            clear HN2 k5 f5 h3 HBK
            generalize blockF s kk σ3 = σ5 at h5 HE5
            clear d3
            have d3 := h5.c3
            have d4 := h5.c4
            have f4 := h5.fz 4
            by_cases hy5 : σ5.why = 0
            · have e3 : ((σ5.why : Int) == 0) = true := by rw [beq_iff_eq]; omega
              by_cases hb1 : bv = 1
              · have e4 : ((bv : Int) == 1) = true := by rw [beq_iff_eq]; omega
                obtain ⟨hf1, R⟩ := HE5.out true (by rw [decide_eq_true ⟨hy5, hb1⟩])
                clear HE5 h5 hy5
                go_wp2
                go_roundg (gk - 1)
                case measure => omega
                case rel => exact ⟨_, R⟩
              · have e4 : ((bv : Int) == 1) = false := by rw [beq_eq_false_iff_ne]; omega
                obtain ⟨hf1, R⟩ := HE5.out false (by rw [decide_eq_false (fun h => hb1 h.2)])
                clear HE5 h5 hy5
                go_wp2
                go_roundg (gk - 1)
                case measure => omega
                case rel => exact ⟨_, R⟩
            · have e3 : ((σ5.why : Int) == 0) = false := by rw [beq_eq_false_iff_ne]; omega
              obtain ⟨hf1, R⟩ := HE5.out false (by rw [decide_eq_false (fun h => hy5 h.1)])
              clear HE5 h5 hy5
              go_wp2
              go_roundg (gk - 1)
              case measure => omega
              case rel => exact ⟨_, R⟩
          · have HBK : Hid (blockF s kk σ3 = codedF s (codeT fixZ 288) 288 (codeT fivZ 32) 32 σ3) := by show _ = _; unfold blockF; rw [if_neg (by omega), if_pos hk]
            have t0 : ((kk : Int) == 0) = false := by rw [beq_eq_false_iff_ne]; omega
            have t1 : ((kk : Int) == 1) = true := by rw [beq_iff_eq]; omega
            clear hk
            go_wp2_with fail
            refine (fixed_any w3).mono ?_
            rintro e w4 ⟨gl, gd, rfl, hgl, hgd, rl, rd, hb4⟩
            have o1 : Off w3 gx vt gl := h3.off hgl
            have o2 : Off w3 gx vt gd := h3.off hgd
            have h4 := h3.later hb4
            have hgx4 : gx ≤ w4.heap.size := Nat.le_trans hgx3 hb4.size
            go_wp2_with fail
            refine (coded_any gx gx gl 288 288 gd 32 32 s (codeT fixZ 288) (codeT fivZ 32) σ3 vt _ h4 hgx4 hs ft3 rl o1.nx o1.nv (by omega) (fun i _ => codeT_most _ _ _ (fixZ_rng i)) rd o2.nx o2.nv (by omega) (fun i _ => codeT_most _ _ _ (by unfold fivZ; omega))).mono ?_
            rintro e w5 ⟨rfl, hr4⟩
            have hr5 := Runs.trans ((Kp.refl w3 gx vt).later hb4) (fun _ hg => Or.inl hg) hr4
            clear hr4 h4 rl rd o1 o2 hb4
            rw [← HBK.out] at hr5
            obtain ⟨vt5, h5, k5, f5⟩ := hr5
            have HE5 : Hid (_) := fun (b : Bool) => HN2.out _ w5 vt5 b rfl h5 k5 f5
            clear HN2 k5 f5 h3 HBK
            generalize blockF s kk σ3 = σ5 at h5 HE5
            clear d3
            have d3 := h5.c3
            have d4 := h5.c4
            have f4 := h5.fz 4
            by_cases hy5 : σ5.why = 0
            · have e3 : ((σ5.why : Int) == 0) = true := by rw [beq_iff_eq]; omega
              by_cases hb1 : bv = 1
              · have e4 : ((bv : Int) == 1) = true := by rw [beq_iff_eq]; omega
                obtain ⟨hf1, R⟩ := HE5.out true (by rw [decide_eq_true ⟨hy5, hb1⟩])
                clear HE5 h5 hy5
                go_wp2
                go_roundg (gk - 1)
                case measure => omega
                case rel => exact ⟨_, R⟩
              · have e4 : ((bv : Int) == 1) = false := by rw [beq_eq_false_iff_ne]; omega
                obtain ⟨hf1, R⟩ := HE5.out false (by rw [decide_eq_false (fun h => hb1 h.2)])
                clear HE5 h5 hy5
                go_wp2
                go_roundg (gk - 1)
                case measure => omega
                case rel => exact ⟨_, R⟩
            · have e3 : ((σ5.why : Int) == 0) = false := by rw [beq_eq_false_iff_ne]; omega
              obtain ⟨hf1, R⟩ := HE5.out false (by rw [decide_eq_false (fun h => hy5 h.1)])
              clear HE5 h5 hy5
              go_wp2
              go_roundg (gk - 1)
              case measure => omega
              case rel => exact ⟨_, R⟩
          · have HBK : Hid (blockF s kk σ3 = ownBlk s σ3) := by show _ = _; unfold blockF; rw [if_neg (by omega), if_neg (by omega), if_pos hk]
            have t0 : ((kk : Int) == 0) = false := by rw [beq_eq_false_iff_ne]; omega
            have t1 : ((kk : Int) == 1) = false := by rw [beq_eq_false_iff_ne]; omega
            have t2 : ((kk : Int) == 2) = true := by rw [beq_iff_eq]; omega
            clear hk
            go_wp2_with fail
            refine (own_any gx gx s σ3 vt _ h3 hgx3 hs ft3).mono ?_
            rintro e w4 ⟨v1, v2, rfl, h4, k4, hdead, hgood⟩
            have HOB : Hid (ownBlk s σ3 = codedF s (codeT (lenZ (ownF s σ3).1 0) ((headF s σ3).a + 257)) ((headF s σ3).a + 257) (codeT (lenZ (ownF s σ3).1 ((headF s σ3).a + 257)) ((headF s σ3).b + 1)) ((headF s σ3).b + 1) (ownF s σ3).2) := rfl
            have ft4 := ownF_fit (s := s) ft3
            have hrg := ownF_rng (s := s) (σ := σ3)
            have hgx4 : gx ≤ w4.heap.size := Nat.le_trans hgx3 k4.size
            generalize ownF s σ3 = p at h4 hdead hgood HOB ft4 hrg
            generalize headF s σ3 = hd at hgood HOB hrg
            obtain ⟨L, σ4⟩ := p
            simp only at h4 hdead hgood HOB ft4 hrg
            by_cases hy4 : σ4.why = 0
            · obtain ⟨gl, gd, rfl, rfl, hgl, hgd, rl, rd⟩ := hgood hy4
              obtain ⟨hrn, ha29, hb29⟩ := hrg hy4
              have hz1 : ∀ i, i < hd.a + 257 → (codeT (lenZ L 0) (hd.a + 257) i).size ≤ 15 := fun i _ => codeT_most _ _ _ (lenZ_rng hrn 0 i)
              have hz2 : ∀ i, i < hd.b + 1 → (codeT (lenZ L (hd.a + 257)) (hd.b + 1) i).size ≤ 15 := fun i _ => codeT_most _ _ _ (lenZ_rng hrn _ i)
              generalize codeT (lenZ L 0) (hd.a + 257) = c1 at rl HOB hz1
              generalize codeT (lenZ L (hd.a + 257)) (hd.b + 1) = c2 at rd HOB hz2
              have hna : hd.a + 257 ≤ 1000 := by omega
              have hnb : hd.b + 1 ≤ 1000 := by omega
              generalize hd.a + 257 = na at rl HOB hz1 hna ⊢
              generalize hd.b + 1 = nb at rd HOB hz2 hnb ⊢
              have o1 : Off w3 gx vt gl := h3.off hgl
              have o2 : Off w3 gx vt gd := h3.off hgd
              clear hrn hrg hdead hgood hy4
              go_wp2_with fail
              refine (coded_any gx gx gl na na gd nb nb s c1 c2 σ4 vt _ h4 hgx4 hs ft4 rl o1.nx o1.nv hna hz1 rd o2.nx o2.nv hnb hz2).mono ?_
              rintro e w5 ⟨rfl, hr4⟩
              have hr5 := Runs.trans k4 (fun _ hg => Or.inl hg) hr4
              rw [← HOB.out] at hr5
              clear hr4 h4 rl rd o1 o2 k4 HOB hz1 hz2
              rw [← HBK.out] at hr5
              obtain ⟨vt5, h5, k5, f5⟩ := hr5
              have HE5 : Hid (_) := fun (b : Bool) => HN2.out _ w5 vt5 b rfl h5 k5 f5
              clear HN2 k5 f5 h3 HBK
              generalize blockF s kk σ3 = σ5 at h5 HE5
              clear d3
              have d3 := h5.c3
              have d4 := h5.c4
              have f4 := h5.fz 4
              by_cases hy5 : σ5.why = 0
              · have e3 : ((σ5.why : Int) == 0) = true := by rw [beq_iff_eq]; omega
                by_cases hb1 : bv = 1
                · have e4 : ((bv : Int) == 1) = true := by rw [beq_iff_eq]; omega
                  obtain ⟨hf1, R⟩ := HE5.out true (by rw [decide_eq_true ⟨hy5, hb1⟩])
                  clear HE5 h5 hy5
                  go_wp2
                  go_roundg (gk - 1)
                  case measure => omega
                  case rel => exact ⟨_, R⟩
                · have e4 : ((bv : Int) == 1) = false := by rw [beq_eq_false_iff_ne]; omega
                  obtain ⟨hf1, R⟩ := HE5.out false (by rw [decide_eq_false (fun h => hb1 h.2)])
                  clear HE5 h5 hy5
                  go_wp2
                  go_roundg (gk - 1)
                  case measure => omega
                  case rel => exact ⟨_, R⟩
              · have e3 : ((σ5.why : Int) == 0) = false := by rw [beq_eq_false_iff_ne]; omega
                obtain ⟨hf1, R⟩ := HE5.out false (by rw [decide_eq_false (fun h => hy5 h.1)])
                clear HE5 h5 hy5
                go_wp2
                go_roundg (gk - 1)
                case measure => omega
                case rel => exact ⟨_, R⟩
            · obtain ⟨rfl, rfl⟩ := hdead hy4
              have HOB2 : Hid (ownBlk s σ3 = σ4) := by show _ = _; rw [HOB.out, codedF_dead hy4]
              clear hgood hrg hdead HOB
              go_wp2_with fail
              refine (coded_dead gx gx s σ4 vt _ h4 hy4).mono ?_
              rintro e w5 ⟨rfl, rfl⟩
              have hr5 : Runs gx w3 w5 gx s vt σ4 := ⟨vt, h4, k4, fun _ hg => Or.inl hg⟩
              rw [← HOB2.out] at hr5
              clear h4 k4 HOB2 hy4
              rw [← HBK.out] at hr5
              obtain ⟨vt5, h5, k5, f5⟩ := hr5
              have HE5 : Hid (_) := fun (b : Bool) => HN2.out _ w5 vt5 b rfl h5 k5 f5
              clear HN2 k5 f5 h3 HBK
              generalize blockF s kk σ3 = σ5 at h5 HE5
              clear d3
              have d3 := h5.c3
              have d4 := h5.c4
              have f4 := h5.fz 4
              by_cases hy5 : σ5.why = 0
              · have e3 : ((σ5.why : Int) == 0) = true := by rw [beq_iff_eq]; omega
                by_cases hb1 : bv = 1
                · have e4 : ((bv : Int) == 1) = true := by rw [beq_iff_eq]; omega
                  obtain ⟨hf1, R⟩ := HE5.out true (by rw [decide_eq_true ⟨hy5, hb1⟩])
                  clear HE5 h5 hy5
                  go_wp2
                  go_roundg (gk - 1)
                  case measure => omega
                  case rel => exact ⟨_, R⟩
                · have e4 : ((bv : Int) == 1) = false := by rw [beq_eq_false_iff_ne]; omega
                  obtain ⟨hf1, R⟩ := HE5.out false (by rw [decide_eq_false (fun h => hb1 h.2)])
                  clear HE5 h5 hy5
                  go_wp2
                  go_roundg (gk - 1)
                  case measure => omega
                  case rel => exact ⟨_, R⟩
              · have e3 : ((σ5.why : Int) == 0) = false := by rw [beq_eq_false_iff_ne]; omega
                obtain ⟨hf1, R⟩ := HE5.out false (by rw [decide_eq_false (fun h => hy5 h.1)])
                clear HE5 h5 hy5
                go_wp2
                go_roundg (gk - 1)
                case measure => omega
                case rel => exact ⟨_, R⟩
          · have HBK : Hid (blockF s kk σ3 = stopF σ3 1) := by show _ = _; unfold blockF; rw [if_neg (by omega), if_neg (by omega), if_neg (by omega)]
            have t0 : ((kk : Int) == 0) = false := by rw [beq_eq_false_iff_ne]; omega
            have t1 : ((kk : Int) == 1) = false := by rw [beq_eq_false_iff_ne]; omega
            have t2 : ((kk : Int) == 2) = false := by rw [beq_eq_false_iff_ne]; omega
            clear hk
            go_wp2_with fail
            refine (stops_any gx gx 1 s σ3 vt _ h3).mono ?_
            rintro e w5 ⟨rfl, h4, k4⟩
            have hr5 : Runs gx w3 w5 gx s vt (stopF σ3 1) := ⟨vt, h4, k4, fun _ hg => Or.inl hg⟩
            clear h4 k4
            rw [← HBK.out] at hr5
            obtain ⟨vt5, h5, k5, f5⟩ := hr5
            have HE5 : Hid (_) := fun (b : Bool) => HN2.out _ w5 vt5 b rfl h5 k5 f5
            clear HN2 k5 f5 h3 HBK
            generalize blockF s kk σ3 = σ5 at h5 HE5
            clear d3
            have d3 := h5.c3
            have d4 := h5.c4
            have f4 := h5.fz 4
            by_cases hy5 : σ5.why = 0
            · have e3 : ((σ5.why : Int) == 0) = true := by rw [beq_iff_eq]; omega
              by_cases hb1 : bv = 1
              · have e4 : ((bv : Int) == 1) = true := by rw [beq_iff_eq]; omega
                obtain ⟨hf1, R⟩ := HE5.out true (by rw [decide_eq_true ⟨hy5, hb1⟩])
                clear HE5 h5 hy5
                go_wp2
                go_roundg (gk - 1)
                case measure => omega
                case rel => exact ⟨_, R⟩
              · have e4 : ((bv : Int) == 1) = false := by rw [beq_eq_false_iff_ne]; omega
                obtain ⟨hf1, R⟩ := HE5.out false (by rw [decide_eq_false (fun h => hb1 h.2)])
                clear HE5 h5 hy5
                go_wp2
                go_roundg (gk - 1)
                case measure => omega
                case rel => exact ⟨_, R⟩
            · have e3 : ((σ5.why : Int) == 0) = false := by rw [beq_eq_false_iff_ne]; omega
              obtain ⟨hf1, R⟩ := HE5.out false (by rw [decide_eq_false (fun h => hy5 h.1)])
              clear HE5 h5 hy5
              go_wp2
              go_roundg (gk - 1)
              case measure => omega
              case rel => exact ⟨_, R⟩
        · have e3 : ((σ3.why : Int) != 0) = true := by rw [bne_iff_ne]; omega
          have P := HPOST.out w3 (HL.out w3 h3 k23 hy3)
          clear HL HN h3 k23 hy3
          go_wp2
          go_ret
          exact P
      · rw [hfi] at d4
        have P := HPOST.out wr (hrel.fin (by rw [hfi]; simp))
        clear hrel hstr hkp hfr hy
        go_wp2
        go_ret
        exact P
    · have e3 : ((σ1.why : Int) == 0) = false := by rw [beq_eq_false_iff_ne]; omega
      have P := HPOST.out wr (hrel.fin (fun h => hy h.1))
      clear hrel hstr hkp hfr hy
      go_wp2
      go_ret
      exact P

end Go.Proofs.Ytnfghnolklhppaa
