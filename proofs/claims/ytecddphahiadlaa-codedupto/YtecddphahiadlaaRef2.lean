/- The contract of the reference's codes. -/
import Derived.Test.YtecddphahiadlaaRef1
namespace Go.Proofs.Ytecddphahiadlaa
open Go.RowKit

theorem fi_topL (c : Nat → Nat) (m : Nat) (h1 : 1 ≤ m) (h2 : m ≤ 15) (hk : kr c 15 ≤ 32768) : fi c m + c m ≤ 2 ^ m := by
  obtain ⟨q, rfl⟩ : ∃ q, m = q + 1 := ⟨m - 1, by omega⟩
  have h := fi_kr c q (by omega)
  have h3 := kr_succ c q
  have h4 := Nat.le_trans (kr_mono c (show q + 1 ≤ 15 by omega)) hk
  rw [h3, ← h, ← Nat.add_mul] at h4
  have e : (32768 : Nat) = 2 ^ (q + 1) * 2 ^ (15 - (q + 1)) := by
    rw [← Nat.pow_add, show q + 1 + (15 - (q + 1)) = 15 from by omega]
  rw [e] at h4
  exact Nat.le_of_mul_le_mul_right h4 (Nat.two_pow_pos _)

/-- The number behind all codes of at most q letters. -/
def nxt (c : Nat → Nat) (q : Nat) : Nat := if q = 0 then 0 else fi c q + c q

theorem nxt_two (c : Nat → Nat) (q : Nat) : nxt c q * 2 = fi c (q + 1) := by
  unfold nxt
  match q with
  | 0 => simp [fi]
  | q + 1 => rw [if_neg (by omega)]; simp only [fi]

theorem nxt_le (c : Nat → Nat) (q : Nat) (hq : q ≤ 15) (hk : kr c 15 ≤ 32768) : nxt c q ≤ 32768 := by
  unfold nxt
  by_cases h0 : q = 0
  · rw [if_pos h0]; omega
  · rw [if_neg h0]
    have h1 := fi_topL c q (by omega) hq hk
    have h3 : 2 ^ q ≤ 2 ^ 15 := Nat.pow_le_pow_right (by omega) (by omega)
    have h4 : (2 : Nat) ^ 15 = 32768 := rfl
    omega

structure RCRel (w wr : World) (z : Nat → Int) (n g q k : Nat) : Prop where
  below : Below w.heap.size w wr
  le : w.heap.size ≤ g
  row : wr.rowIs g 9 n (fun i => .string (if (1 ≤ z i ∧ z i ≤ (q : Int)) ∨ (z i = (q : Int) + 1 ∧ i < k) then codeT z n i else .empty))

theorem rc_start (w : World) (z : Nat → Int) (n : Nat) : RCRel w (w.alloc (.cells (madeCells #[.string .empty] n) 9)) z n w.heap.size 0 0 := by
  refine ⟨(Below.refl _ _).alloc (Nat.le_refl _) _, Nat.le_refl _, (World.rowIs_made w (.string .empty) n 9).congr (fun i _ => ?_)⟩
  rw [if_neg (by omega)]

theorem rc_next {w wr : World} {z : Nat → Int} {n g q : Nat} (h : RCRel w wr z n g q n) : RCRel w wr z n g (q + 1) 0 := by
  refine ⟨h.below, h.le, h.row.congr (fun i hi => ?_)⟩
  by_cases e : (1 ≤ z i ∧ z i ≤ (q : Int)) ∨ (z i = (q : Int) + 1 ∧ i < n)
  · rw [if_pos e, if_pos (by omega)]
  · rw [if_neg e, if_neg (by omega)]

theorem rc_pass {w wr : World} {z : Nat → Int} {n g q k : Nat} (h : RCRel w wr z n g q k) (hz : z k ≠ (q : Int) + 1) : RCRel w wr z n g q (k + 1) := by
  refine ⟨h.below, h.le, h.row.congr (fun i hi => ?_)⟩
  by_cases e : (1 ≤ z i ∧ z i ≤ (q : Int)) ∨ (z i = (q : Int) + 1 ∧ i < k)
  · rw [if_pos e, if_pos (by omega)]
  · rw [if_neg e, if_neg]
    rintro (h1 | ⟨h1, h2⟩)
    · exact e (Or.inl h1)
    · by_cases e2 : i = k
      · subst e2; exact hz h1
      · exact e (Or.inr ⟨h1, by omega⟩)

theorem rc_step {w wr : World} {z : Nat → Int} {n g q k p : Nat} (h : RCRel w wr z n g q k) (hz : z k = (q : Int) + 1) (hp : p = fi (cntN z n) (q + 1) + cntN z k (q + 1)) :
    RCRel w (wr.setCell ⟨g, k, none⟩ (.string (bitsB p (q + 1)))) z n g q (k + 1) := by
  refine ⟨h.below.setCell h.le _, h.le, (h.row.set k _).congr (fun i hi => ?_)⟩
  by_cases e2 : i = k
  · subst e2
    rw [if_pos rfl, if_pos (by omega)]
    have e3 : (z i).toNat = q + 1 := by omega
    unfold codeT codeN
    rw [if_neg (by omega), e3, hp]
  · rw [if_neg e2]
    by_cases e : (1 ≤ z i ∧ z i ≤ (q : Int)) ∨ (z i = (q : Int) + 1 ∧ i < k)
    · rw [if_pos e, if_pos (by omega)]
    · rw [if_neg e, if_neg (by omega)]

theorem rc_end {w wr : World} {z : Nat → Int} {n g : Nat} (h : RCRel w wr z n g 15 0) (hr : ∀ i, i < n → 0 ≤ z i ∧ z i ≤ 15) : wr.rowIs g 9 n (fun i => .string (codeT z n i)) := by
  refine h.row.congr (fun i hi => ?_)
  have := hr i hi
  by_cases e : (1 ≤ z i ∧ z i ≤ ((15 : Nat) : Int)) ∨ (z i = ((15 : Nat) : Int) + 1 ∧ i < 0)
  · rw [if_pos e]
  · rw [if_neg e]
    unfold codeT
    rw [if_pos (by omega)]

theorem rtext_at (x m : Nat) (mi : Int) (hmi : mi = (m : Int)) (w : World) (hx : x < 2 ^ m) (hm : m ≤ 15) :
    Calls Try.prog 38 #[.int .i64 x, .int .i64 mi] w fun e w' => e = .returned (.string (bitsB x m)) ∧ w' = w := by
  subst hmi
  exact rtext_any x m w hx hm

set_option maxHeartbeats 400000 in
theorem rcodes_any (b off n cap : Nat) (z : Nat → Int) (w : World) (hz : IntsAt w b off n z) (hn : n ≤ 288) (hr : ∀ i, i < n → 0 ≤ z i ∧ z i ≤ 15) (hk : kr (cntN z n) 15 ≤ 32768) :
    Calls Try.prog 22 #[.slice (some ⟨b, off, none⟩) n cap] w fun e w' => e = .returned (.slice (some ⟨w.heap.size, 0, none⟩) n n) ∧ w'.rowIs w.heap.size 9 n (fun i => .string (codeT z n i)) ∧ Below w.heap.size w w' := by
  have hmk := run_make_row' (P := Try.prog) 25 9 (.string .empty) 16 Try.underlying25 Try.info9 rfl .i64 .i64 n (by omega) (by omega)
  have RS := rc_start w z n
  go_enter Try.func22, Try.ntmps22
  go_wp2
  go_loopw [4, 5] (fun x l wr => ∃ q : Nat, q ≤ 15 ∧ l = .int .i64 (q + 1 : Nat) ∧ x = .int .i64 (nxt (cntN z n) q : Nat) ∧ RCRel w wr z n w.heap.size q 0) (fun _ l _ => 16 - (intOf l).toNat)
  case atStart => exact ⟨0, by omega, rfl, rfl, RS⟩
  case round =>
    obtain ⟨q, hq, rfl, rfl, hrel⟩ := hrel
    clear RS hmk
    by_cases hlt : q < 15
    · have hnx := nxt_le (cntN z n) q hq hk
      have hn2 := nxt_two (cntN z n) q
      obtain ⟨x, hx⟩ : ∃ x, x = nxt (cntN z n) q := ⟨_, rfl⟩
      rw [← hx] at hnx hn2 ⊢
      clear hx
      have HX : Hid (x * 2 = fi (cntN z n) (q + 1)) := hn2
      clear hn2
      obtain ⟨m, hm⟩ : ∃ m, m = q + 1 := ⟨_, rfl⟩
      rw [← hm]
      have HM : Hid (m = q + 1) := hm
      have hm1 : q + 1 ≤ m := by omega
      have hm2 : m ≤ q + 1 := by omega
      clear hm
      have hmb : decide ((m : Int) ≤ 15) = true := by rw [decide_eq_true_iff]; omega
      go_wp2
      go_loopw [4, 6] (fun x i wr => ∃ k : Nat, k ≤ n ∧ i = .int .i64 k ∧ x = .int .i64 (fi (cntN z n) (q + 1) + cntN z k (q + 1) : Nat) ∧ RCRel w wr z n w.heap.size q k) (fun _ i _ => n - (intOf i).toNat)
      case atStart => exact ⟨0, by omega, rfl, by rw [← HX.out]; simp [cntN]; omega, hrel⟩
      case round =>
        obtain ⟨k, hk', rfl, rfl, hrel⟩ := hrel
        by_cases hlk : k < n
        · have hc := (hz.later hrel.below).cell k hlk
          have hf := hrel.row.frozen k
          have hcr := hrel.row.cell hlk
          have hft := fi_topL (cntN z n) (q + 1) (by omega) (by omega) hk
          by_cases he : z k = (q : Int) + 1
          · have hcl := cntN_lt z (m := q + 1) hlk (by omega)
            have hcs : cntN z (k + 1) (q + 1) = cntN z k (q + 1) + 1 := by
              simp only [cntN]; rw [if_pos (by omega)]
            obtain ⟨p, hp⟩ : ∃ p, p = fi (cntN z n) (q + 1) + cntN z k (q + 1) := ⟨_, rfl⟩
            have R := rc_step hrel he hp
            rw [← HM.out] at R
            have he' : z k = (m : Int) := by omega
            rw [he'] at hc
            have hpb : p < 2 ^ m := by rw [HM.out]; omega
            have HP : Hid (((p : Int) + 1) = ((fi (cntN z n) (q + 1) + cntN z (k + 1) (q + 1) : Nat) : Int)) := by
              show ((p : Int) + 1) = _
              rw [hcs]; omega
            rw [← hp]
            have hpb2 : p < 32768 := by
              have h3 : 2 ^ m ≤ 2 ^ 15 := Nat.pow_le_pow_right (by omega) (by omega)
              have h4 : (2 : Nat) ^ 15 = 32768 := rfl
              omega
            have HPB : Hid (p < 2 ^ m) := hpb
            clear hp he he' hcs hcl hft hpb hcr
            have hcr := hrel.row.cell hlk
            go_wp2_with fail
            refine (rtext_any p m _ HPB.out (by omega)).mono ?_
            rintro e w' ⟨rfl, rfl⟩
            go_wp2
            go_roundw
            case rel => exact ⟨k + 1, by omega, by go_num, congrArg (Value.int .i64) HP.out, R⟩
            case measure => simp [intOf]; omega
          · have hcs : cntN z (k + 1) (q + 1) = cntN z k (q + 1) := by
              simp only [cntN]; rw [if_neg (by omega)]; rfl
            have hne : (z k == (m : Int)) = false := by rw [beq_eq_false_iff_ne]; omega
            have R := rc_pass hrel he
            have HC : Hid (cntN z (k + 1) (q + 1) = cntN z k (q + 1)) := hcs
            clear hcs hft
            go_wp2
            go_roundw
            case rel => exact ⟨k + 1, by omega, by go_num, by rw [HC.out], R⟩
            case measure => simp [intOf]; omega
        · obtain rfl : k = n := by omega
          have R := rc_next hrel
          go_wp2
          go_roundw
          case rel => exact ⟨q + 1, by omega, by go_num, by unfold nxt; rw [if_neg (by omega)], R⟩
          case measure => simp [intOf]; omega
    · obtain rfl : q = 15 := by omega
      have R := rc_end hrel hr
      go_wp2
      go_ret
      exact ⟨rfl, R, hrel.below⟩

theorem fitB_of_ok {z : Nat → Int} {n : Nat} (h : okB z n = true) (hr : ∀ i, i < n → 0 ≤ z i ∧ z i ≤ 15) : fitB z n = decide (ks0 z n = 32768) := by
  unfold fitB
  rw [h, kr_ks0 z n hr, Bool.true_and]

theorem fitB_zero (z : Nat → Int) : fitB z 0 = false := by
  have h : okB z 0 = true := okB_yes (by omega) (fun i hi => absurd hi (by omega))
  rw [fitB_of_ok h (fun i hi => absurd hi (by omega))]
  rfl

set_option maxHeartbeats 400000 in
theorem rleft_nil (ao : Option Addr) (cap : Nat) (w : World) : Calls Try.prog 21 #[.slice ao 0 cap] w fun e w' => e = .returned (.int .i64 32768) ∧ w' = w := by
  go_enter Try.func21, Try.ntmps21
  go_wp2
  go_loop [3, 4] (fun p i => i = .int .i64 0 ∧ p = .int .i64 32768) (fun _ i => (intOf i).toNat)
  case atStart => exact ⟨rfl, rfl⟩
  case round =>
    obtain ⟨rfl, rfl⟩ := hrel
    go_wp2
    go_ret
    exact ⟨rfl, rfl⟩

end Go.Proofs.Ytecddphahiadlaa
