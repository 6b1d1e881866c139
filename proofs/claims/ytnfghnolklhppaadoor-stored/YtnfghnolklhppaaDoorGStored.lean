/- The program's stored: a block of kind 0. -/
import Derived.Test.YtnfghnolklhppaaDoorGPut
import Derived.Test.YtnfghnolklhppaaDoorPlain
namespace Go.Proofs.YtnfghnolklhppaaDoor
open Go.RowKit

theorem wholeF_align (σ : St) : wholeF σ = alignF σ := by
  unfold wholeF alignF
  rw [Nat.mul_comm]

theorem putF_dead {σ : St} (h : σ.why ≠ 0) (c : UInt8) : putF σ c = σ := by unfold putF; rw [if_pos h]

/-- The state of the loop over the bytes: k are still to come. -/
structure GPR (B : Nat) (w wr : World) (gx : Nat) (s : ByteArray) (vt fx : Value) (k : Nat) (σ goal : St) : Prop where
  fit : Fit s σ
  why : σ.why = 0
  runs : RunsG B w wr gx s vt fx σ
  eq : bytesF s k σ = goal

theorem GPR.zero {B : Nat} {w wr : World} {gx : Nat} {s : ByteArray} {vt fx : Value} {σ goal : St} (h : GPR B w wr gx s vt fx 0 σ goal) : goal.why = 0 ∧ RunsG B w wr gx s vt fx goal := by
  rw [← h.eq]; exact ⟨h.why, h.runs⟩

theorem GPR.bad1 {B : Nat} {w wr w3 : World} {gx : Nat} {s : ByteArray} {vt fx vt' : Value} {k : Nat} {σ goal : St} (h : GPR B w wr gx s vt fx (k + 1) σ goal) (hkp : Kp w wr gx vt)
    (hfr : ∀ g, vt'.ownBlock = some g → vt.ownBlock = some g ∨ w.heap.size ≤ g) (h3 : Rd B w3 gx s (numF s 8 σ).2 vt' fx) (k3 : Kp wr w3 gx vt') (hy : (numF s 8 σ).2.why ≠ 0) : goal.why = (numF s 8 σ).2.why ∧ RunsG B w w3 gx s vt fx goal := by
  have e := h.eq
  simp only [bytesF] at e
  rw [if_pos h.why, putF_dead hy, bytesF_dead hy] at e
  rw [← e]
  exact ⟨rfl, RunsG.trans hkp hfr ⟨vt', h3, k3, fun _ hg => Or.inl hg⟩⟩

theorem GPR.bad2 {B : Nat} {w wr w3 w4 : World} {gx : Nat} {s : ByteArray} {vt fx vt' : Value} {k : Nat} {σ goal : St} (h : GPR B w wr gx s vt fx (k + 1) σ goal) (hkp : Kp w wr gx vt)
    (hfr : ∀ g, vt'.ownBlock = some g → vt.ownBlock = some g ∨ w.heap.size ≤ g) (k3 : Kp wr w3 gx vt')
    (h4 : RunsG B w3 w4 gx s vt' fx (putF (numF s 8 σ).2 (UInt8.ofNat (numF s 8 σ).1))) :
    ((putF (numF s 8 σ).2 (UInt8.ofNat (numF s 8 σ).1)).why ≠ 0 → goal.why = (putF (numF s 8 σ).2 (UInt8.ofNat (numF s 8 σ).1)).why ∧ RunsG B w w4 gx s vt fx goal) ∧
    ((putF (numF s 8 σ).2 (UInt8.ofNat (numF s 8 σ).1)).why = 0 → GPR B w w4 gx s vt fx k (putF (numF s 8 σ).2 (UInt8.ofNat (numF s 8 σ).1)) goal) := by
  have e := h.eq
  simp only [bytesF] at e
  rw [if_pos h.why] at e
  have R := RunsG.trans hkp hfr (RunsG.trans k3 (fun g hg => Or.inl hg) h4)
  refine ⟨fun hy => ?_, fun hy => ⟨(h.fit.num 8).put _, hy, R, e⟩⟩
  rw [bytesF_dead hy] at e
  rw [← e]
  exact ⟨rfl, R⟩

theorem numF_ltK (s : ByteArray) (n k : Nat) (σ : St) (h : 2 ^ n = k) : (numF s n σ).1 < k := by rw [← h]; exact numF_lt s n σ

def plainTail (s : ByteArray) (a b : Nat × St) : St := bytesF s a.1 (if b.2.why = 0 ∧ a.1 + b.1 ≠ 65535 then stopF b.2 1 else b.2)
def plainMid (s : ByteArray) (a : Nat × St) : St := plainTail s a (numF s 16 a.2)
theorem plainF_eq (s : ByteArray) (σ : St) : plainF s σ = plainMid s (numF s 16 (alignF σ)) := by
  simp only [plainF, plainHead, plainTail, plainMid]
theorem plainMid_eq (s : ByteArray) (n : Nat) (σ : St) : plainMid s (n, σ) = plainTail s (n, σ) (numF s 16 σ) := by
  simp only [plainMid]
theorem plainTail_dead {s : ByteArray} {a b : Nat × St} (h : b.2.why ≠ 0) : plainTail s a b = b.2 := by
  unfold plainTail
  rw [if_neg (fun c => h c.1), bytesF_dead h]
theorem plainTail_bad {s : ByteArray} {a b : Nat × St} (h : b.2.why = 0) (hn : a.1 + b.1 ≠ 65535) : plainTail s a b = { b.2 with why := 1 } := by
  unfold plainTail
  have e : stopF b.2 1 = { b.2 with why := 1 } := by unfold stopF; rw [if_pos h]
  rw [if_pos ⟨h, hn⟩, e, bytesF_dead (by show (1 : Nat) ≠ 0; omega)]
theorem plainTail_ok {s : ByteArray} {a b : Nat × St} (hn : a.1 + b.1 = 65535) : plainTail s a b = bytesF s a.1 b.2 := by
  unfold plainTail
  rw [if_neg (by omega)]

set_option maxHeartbeats 1000000 in
theorem stored_any (B gx : Nat) (s : ByteArray) (σ : St) (vt fx : Value) (w : World) (h : Rd B w gx s σ vt fx) (hB : B ≤ w.heap.size) (hs : s.size ≤ 140737488400000) (hf : Fit s σ) (hy : σ.why = 0) :
    Calls Tryd.prog 46 #[.pointer (some ⟨gx, 0, none⟩)] w fun e w' => e = endOf (plainF s σ).why (.tuple #[]) ∧ RunsG B w w' gx s vt fx (plainF s σ) := by
  have hp8 := hf.pos
  have HG : Hid (_) := plainF_eq s σ
  generalize plainF s σ = goal at HG ⊢
  have fA := hf.align
  have hyA : (alignF σ).why = 0 := hy
  go_enter Tryd.func46, Tryd.ntmps46
  go_wp2_with fail
  refine (whole_any B gx s σ vt fx _ h (by omega)).mono ?_
  rintro e w1 ⟨rfl, h1, k1⟩
  rw [wholeF_align] at h1
  clear h hf hy
  generalize alignF σ = σa at h1 HG fA hyA
  go_wp2_with fail
  refine (gnumber_any B gx 16 s σa vt fx _ h1 hs fA.pos hyA (by omega)).mono ?_
  rintro e w2 ⟨he, h2, k2⟩
  have f2 := fA.num 16
  have n1 := numF_ltK s 16 65536 σa rfl
  have K2 := k1.trans k2
  clear k1 k2 h1 fA hyA
  generalize numF s 16 σa = q at he h2 f2 n1 HG
  obtain ⟨n, σ2⟩ := q
  rw [plainMid_eq] at HG
  simp only at he h2 f2 n1
  by_cases hy2 : σ2.why = 0
  · rw [endOf_ok hy2] at he; subst he
    go_wp2_with fail
    refine (gnumber_any B gx 16 s σ2 vt fx _ h2 hs f2.pos hy2 (by omega)).mono ?_
    rintro e w3 ⟨he, h3, k3⟩
    have f3 := f2.num 16
    have n2 := numF_ltK s 16 65536 σ2 rfl
    have K3 := K2.trans k3
    clear K2 k3 h2 f2 hy2
    generalize numF s 16 σ2 = q at he h3 f3 n2 HG
    obtain ⟨m, σ3⟩ := q
    simp only at he h3 f3 n2
    by_cases hy3 : σ3.why = 0
    · rw [endOf_ok hy3] at he; subst he
      by_cases hnm : n + m = 65535
      · have e1 : ((m : Int) != 65535 - (n : Int)) = false := by rw [bne_eq_false_iff_eq]; omega
        have R0 : GPR B w w3 gx s vt fx n σ3 goal := ⟨f3, hy3, ⟨vt, h3, K3, fun _ hg => Or.inl hg⟩, by rw [HG.out, plainTail_ok hnm]⟩
        have hB3 : B ≤ w3.heap.size := Nat.le_trans hB K3.size
        clear HG h3 K3 f3 hy3 hnm
        go_wp2_with fail
        go_loopw [20] (fun c wr => ∃ (k r : Nat) (σ1 : St), k + r = n ∧ c = .int .i64 (k : Nat) ∧ GPR B w wr gx s vt fx r σ1 goal) (fun c _ => n - (intOf c).toNat)
        case atStart => exact ⟨0, n, σ3, by omega, rfl, R0⟩
        case round =>
          obtain ⟨k, r, σ1, hkr, rfl, hrel⟩ := hrel
          clear R0
          by_cases h0 : 0 < r
          · obtain ⟨r', rfl⟩ : ∃ r', r = r' + 1 := ⟨r - 1, by omega⟩
            have hkn : k < n := by omega
            obtain ⟨vt', hrd, hkp, hfr⟩ := hrel.runs
            have hBr : B ≤ wr.heap.size := Nat.le_trans hB hkp.size
            go_wp2_with fail
            refine (gnumber_any B gx 8 s σ1 vt' fx _ hrd hs hrel.fit.pos hrel.why (by omega)).mono ?_
            rintro e w4 ⟨he, h4, k4⟩
            have n4 := numF_ltK s 8 256 σ1 rfl
            have f4 := hrel.fit.num 8
            have HB1 : Hid (_) := fun hy => hrel.bad1 (w3 := w4) hkp hfr h4 k4 hy
            have HB2 : Hid (_) := fun w5 => hrel.bad2 (w3 := w4) (w4 := w5) hkp hfr k4
            have hB4 : B ≤ w4.heap.size := Nat.le_trans hBr k4.size
            clear hrel hrd hkp hfr k4
            generalize numF s 8 σ1 = q at he h4 f4 n4 HB1 HB2
            obtain ⟨c, σ4⟩ := q
            simp only at he h4 f4 n4 HB1 HB2
            by_cases hy4 : σ4.why = 0
            · rw [endOf_ok hy4] at he; subst he
              have HC : Hid ((c : Int) = (((UInt8.ofNat c).toNat : Nat) : Int)) := by
                show _ = _
                rw [UInt8.toNat_ofNat', Nat.mod_eq_of_lt (by omega)]
              have P := gput_any B gx s σ4 vt' fx (UInt8.ofNat c) w4 h4 hB4 f4.text hy4
              rw [← HC.out] at P
              have HP : Hid (_) := P
              clear P HB1 h4 f4
              go_wp2_with fail
              refine Calls.mono HP.out ?_
              rintro e w5 ⟨he, h5⟩
              obtain ⟨b1, b2⟩ := HB2.out w5 h5
              clear HB2 HP h5
              by_cases hy5 : (putF σ4 (UInt8.ofNat c)).why = 0
              · rw [endOf_ok hy5] at he; subst he
                have R := b2 hy5
                clear b1 b2
                go_wp2
                go_roundw
                case rel => exact ⟨k + 1, r', _, by omega, by go_num, R⟩
                case measure => simp [intOf]; omega
              · obtain ⟨eg, R⟩ := b1 hy5
                rw [endOf_bad hy5] at he; subst he
                clear b1 b2
                go_wp2
                rw [eg, endOf_bad hy5]
                exact ⟨rfl, rfl, R⟩
            · obtain ⟨eg, R⟩ := HB1.out hy4
              rw [endOf_bad hy4] at he; subst he
              clear HB1 HB2 h4
              go_wp2
              rw [eg, endOf_bad hy4]
              exact ⟨rfl, rfl, R⟩
          · obtain rfl : r = 0 := by omega
            obtain rfl : k = n := by omega
            obtain ⟨eg, R⟩ := hrel.zero
            clear hrel
            go_wp2
            go_end0
            rw [endOf_ok eg]
            exact ⟨rfl, R⟩
      · have e1 : ((m : Int) != 65535 - (n : Int)) = true := by rw [bne_iff_ne]; omega
        have HGO : Hid (goal = { σ3 with why := 1 }) := by show goal = _; rw [HG.out, plainTail_bad hy3 hnm]
        clear HG hnm hy3
        go_wp2_with fail
        refine (wrong_any _).mono ?_
        rintro e w4 ⟨rfl, rfl⟩
        rw [endOf_bad (by omega)]
        go_wp2
        rw [HGO.out]
        exact ⟨rfl, rfl, vt, h3.congr rfl rfl, K3, fun _ hg => Or.inl hg⟩
    · rw [endOf_bad hy3] at he; subst he
      have HGO : Hid (goal = σ3) := by
        show goal = σ3
        rw [HG.out, plainTail_dead hy3]
      clear HG
      go_wp2
      rw [HGO.out, endOf_bad hy3]
      exact ⟨rfl, rfl, vt, h3, K3, fun _ hg => Or.inl hg⟩
  · rw [endOf_bad hy2] at he; subst he
    have HGO : Hid (goal = σ2) := by
      show goal = σ2
      have e1 := numF_dead (s := s) 16 (σ := σ2) hy2
      rw [HG.out, plainTail_dead (by rw [e1]; exact hy2), e1]
    clear HG
    go_wp2
    rw [HGO.out, endOf_bad hy2]
    exact ⟨rfl, rfl, vt, h2, K2, fun _ hg => Or.inl hg⟩

end Go.Proofs.YtnfghnolklhppaaDoor
