/- The program's size: the head of a block of kind 0. -/
import Derived.Test.YtecddphahiadlaaDoorCGPut
import Derived.Test.YtecddphahiadlaaDoorCPlain
namespace Go.Proofs.YtecddphahiadlaaDoor
open Go.RowKit

theorem wholeF_align (σ : St) : wholeF σ = alignF σ := by
  unfold wholeF alignF
  rw [Nat.mul_comm]

theorem putF_dead {σ : St} (h : σ.why ≠ 0) (c : UInt8) : putF σ c = σ := by unfold putF; rw [if_pos h]

theorem numF_ltK (s : ByteArray) (n k : Nat) (σ : St) (h : 2 ^ n = k) : (numF s n σ).1 < k := by rw [← h]; exact numF_lt s n σ

def headTail (a b : Nat × St) : Nat × St := (a.1, if b.2.why = 0 ∧ a.1 + b.1 ≠ 65535 then stopF b.2 1 else b.2)
def headMid (s : ByteArray) (a : Nat × St) : Nat × St := headTail a (numF s 16 a.2)
theorem plainHead_eq (s : ByteArray) (σ : St) : plainHead s σ = headMid s (numF s 16 (alignF σ)) := by
  simp only [plainHead, headMid, headTail]
theorem headMid_eq (s : ByteArray) (n : Nat) (σ : St) : headMid s (n, σ) = headTail (n, σ) (numF s 16 σ) := by
  simp only [headMid]
theorem headTail_dead {a b : Nat × St} (h : b.2.why ≠ 0) : headTail a b = (a.1, b.2) := by
  unfold headTail
  rw [if_neg (fun c => h c.1)]
theorem headTail_bad {a b : Nat × St} (h : b.2.why = 0) (hn : a.1 + b.1 ≠ 65535) : headTail a b = (a.1, { b.2 with why := 1 }) := by
  unfold headTail
  have e : stopF b.2 1 = { b.2 with why := 1 } := by unfold stopF; rw [if_pos h]
  rw [if_pos ⟨h, hn⟩, e]
theorem headTail_ok {a b : Nat × St} (hn : a.1 + b.1 = 65535) : headTail a b = (a.1, b.2) := by
  unfold headTail
  rw [if_neg (by omega)]

set_option maxHeartbeats 1000000 in
theorem size_any (B gx : Nat) (s : ByteArray) (σ : St) (vt : Value) (fx : Ex) (w : World) (h : Rd B w gx s σ vt fx) (hs : s.size ≤ 140737488400000) (hf : Fit s σ) (hy : σ.why = 0) :
    Calls Tryd.prog 113 #[.pointer (some ⟨gx, 0, none⟩)] w fun e w' => e = endOf (plainHead s σ).2.why (.int .i64 ((plainHead s σ).1 : Int)) ∧ Rd B w' gx s (plainHead s σ).2 vt fx ∧ Kp w w' gx vt := by
  have hp8 := hf.pos
  have HG : Hid (_) := plainHead_eq s σ
  generalize plainHead s σ = goal at HG ⊢
  have fA := hf.align
  have hyA : (alignF σ).why = 0 := hy
  go_enter Tryd.func113, Tryd.ntmps113
  go_wp2_with fail
  refine (whole_any B gx s σ vt fx _ h (by omega)).mono ?_
  rintro e w1 ⟨rfl, h1, k1⟩
  rw [wholeF_align] at h1
  clear h hf hy
  generalize alignF σ = σa at h1 HG fA hyA
  go_wp2_with fail
  refine (gnumber_any B gx 16 s σa vt fx _ h1 hs fA.pos hyA (by omega)).mono ?_
  rintro e w2 ⟨he, h2, k2⟩
  have f2 := fA.num 16
  have n1 := numF_ltK s 16 65536 σa rfl
  have K2 := k1.trans k2
  clear k1 k2 h1 fA hyA
  generalize numF s 16 σa = q at he h2 f2 n1 HG
  obtain ⟨n, σ2⟩ := q
  rw [headMid_eq] at HG
  simp only at he h2 f2 n1
  by_cases hy2 : σ2.why = 0
  · rw [endOf_ok hy2] at he; subst he
    go_wp2_with fail
    refine (gnumber_any B gx 16 s σ2 vt fx _ h2 hs f2.pos hy2 (by omega)).mono ?_
    rintro e w3 ⟨he, h3, k3⟩
    have f3 := f2.num 16
    have n2 := numF_ltK s 16 65536 σ2 rfl
    have K3 := K2.trans k3
    clear K2 k3 h2 f2 hy2
    generalize numF s 16 σ2 = q at he h3 f3 n2 HG
    obtain ⟨m, σ3⟩ := q
    simp only at he h3 f3 n2
    by_cases hy3 : σ3.why = 0
    · rw [endOf_ok hy3] at he; subst he
      by_cases hnm : n + m = 65535
      · have e1 : ((m : Int) != 65535 - (n : Int)) = false := by rw [bne_eq_false_iff_eq]; omega
        have HGO : Hid (goal = (n, σ3)) := by show goal = _; rw [HG.out, headTail_ok hnm]
        clear HG hnm
        go_wp2
        go_ret
        rw [HGO.out]
        exact ⟨by show _ = endOf σ3.why (.int .i64 (n : Int)); rw [endOf_ok hy3]; rfl, h3, K3⟩
      · have e1 : ((m : Int) != 65535 - (n : Int)) = true := by rw [bne_iff_ne]; omega
        have HGO : Hid (goal = (n, { σ3 with why := 1 })) := by show goal = _; rw [HG.out, headTail_bad hy3 hnm]
        clear HG hnm hy3
        go_wp2_with fail
        refine (wrong_any _).mono ?_
        rintro e w4 ⟨rfl, rfl⟩
        rw [endOf_bad (by omega)]
        go_wp2
        rw [HGO.out]
        exact ⟨rfl, rfl, h3.congr rfl rfl, K3⟩
    · rw [endOf_bad hy3] at he; subst he
      have HGO : Hid (goal = (n, σ3)) := by
        show goal = _
        rw [HG.out, headTail_dead hy3]
      clear HG
      go_wp2
      rw [HGO.out, endOf_bad hy3]
      exact ⟨rfl, rfl, h3, K3⟩
  · rw [endOf_bad hy2] at he; subst he
    have HGO : Hid (goal = (n, σ2)) := by
      show goal = _
      have e1 := numF_dead (s := s) 16 (σ := σ2) hy2
      rw [HG.out, headTail_dead (by rw [e1]; exact hy2), e1]
    clear HG
    go_wp2
    rw [HGO.out, endOf_bad hy2]
    exact ⟨rfl, rfl, h2, K2⟩

end Go.Proofs.YtecddphahiadlaaDoor
