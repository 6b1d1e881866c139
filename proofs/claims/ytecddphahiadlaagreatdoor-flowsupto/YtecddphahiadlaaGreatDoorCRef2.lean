import Derived.Test.YtecddphahiadlaaGreatDoorCKraft
/- Contracts of the reference's small functions: text, part, left. -/
namespace Go.Proofs.YtecddphahiadlaaGreatDoor
open Go.RowKit

set_option maxHeartbeats 400000 in
theorem rtext_any (x m : Nat) (w : World) (hx : x < 2 ^ m) (hm : m ≤ 15) :
    Calls Tryz.prog 128 #[.int .i64 x, .int .i64 m] w fun e w' => e = .returned (.string (bitsB x m)) ∧ w' = w := by
  have h15 : 2 ^ m ≤ 2 ^ 15 := Nat.pow_le_pow_right (by omega) hm
  have h15' : (2 : Nat) ^ 15 = 32768 := rfl
  have hx15 : x < 32768 := by omega
  have HX : Hid (x % 2 ^ m = x) := Nat.mod_eq_of_lt hx
  clear h15 h15' hx
  go_enter Tryz.func128, Tryz.ntmps128
  go_wp2
  go_loop [0, 1, 5] (fun nn i row => ∃ j : Nat, j ≤ m ∧ i = .int .i64 (m - j : Nat) ∧ nn = .int .i64 (x / 2 ^ j : Nat) ∧ row = .string (bitsB (x % 2 ^ j) j)) (fun _ i _ => (intOf i).toNat)
  case atStart => exact ⟨0, by omega, by simp, by simp, by simp [bitsB, bitsL]⟩
  case round =>
    obtain ⟨j, hj, rfl, rfl, rfl⟩ := hrel
    have hNj : x / 2 ^ j ≤ x := Nat.div_le_self _ _
    obtain ⟨Nj, hNj'⟩ : ∃ Nj, Nj = x / 2 ^ j := ⟨_, rfl⟩
    rw [← hNj'] at hNj ⊢
    have HN : Hid (Nj = x / 2 ^ j) := hNj'
    clear hNj'
    obtain ⟨r, hr⟩ : ∃ r, r = m - j := ⟨_, rfl⟩
    rw [← hr]
    by_cases hlt : j < m
    · have hs15 := bitsB_size (x % 2 ^ j) j
      have hs16 : (bitsB (x % 2 ^ j) j).size ≤ 15 := by omega
      clear hs15
      have HR : Hid (_) := row_step x j Nj HN.out
      have HQ : Nj / 2 = x / 2 ^ (j + 1) := by rw [HN.out, Nat.pow_succ, Nat.div_div_eq_div_mul]
      have HQ' : Hid (Nj / 2 = x / 2 ^ (j + 1)) := HQ
      have h1 : 1 ≤ r := by omega
      have h2 : r ≤ 15 := by omega
      have HRR : Hid (r = m - j) := hr
      clear HQ hr
      go_wp2
      go_round
      case rel => exact ⟨j + 1, by omega, by have := HRR.out; go_num, by rw [← HQ'.out]; go_num, congrArg Value.string HR.out⟩
      case measure => simp [intOf]; omega
    · obtain rfl : j = m := by omega
      obtain rfl : r = 0 := by omega
      clear hr
      rw [HX.out]
      go_wp2
      go_ret
      exact ⟨rfl, rfl⟩

set_option maxHeartbeats 400000 in
theorem rpart_any (m : Nat) (w : World) (hm : m ≤ 15) :
    Calls Tryz.prog 131 #[.int .i64 m] w fun e w' => e = .returned (.int .i64 (2 ^ (15 - m) : Nat)) ∧ w' = w := by
  go_enter Tryz.func131, Tryz.ntmps131
  go_wp2
  go_loop [0, 3] (fun i p => ∃ j : Nat, j ≤ m ∧ i = .int .i64 (m - j : Nat) ∧ p = .int .i64 (2 ^ (15 - j) : Nat)) (fun i _ => (intOf i).toNat)
  case atStart => exact ⟨0, by omega, by simp, rfl⟩
  case round =>
    obtain ⟨j, hj, rfl, rfl⟩ := hrel
    obtain ⟨r, hr⟩ : ∃ r, r = m - j := ⟨_, rfl⟩
    obtain ⟨P, hP⟩ : ∃ P, P = 2 ^ (15 - j) := ⟨_, rfl⟩
    have hPb := pow_le_15 j
    rw [← hr, ← hP]
    rw [← hP] at hPb
    by_cases hlt : j < m
    · have h1 : 1 ≤ r := by omega
      have h2 : r ≤ 15 := by omega
      have HRR : Hid (r = m - j) := hr
      have HP : Hid (P / 2 = 2 ^ (15 - (j + 1))) := by
        show P / 2 = 2 ^ (15 - (j + 1))
        rw [hP, show 15 - j = (15 - (j + 1)) + 1 from by omega, Nat.pow_succ]
        omega
      clear hr hP
      go_wp2
      go_round
      case rel => exact ⟨j + 1, by omega, by have := HRR.out; go_num, by rw [← HP.out]; go_num⟩
      case measure => simp [intOf]; omega
    · obtain rfl : j = m := by omega
      obtain rfl : r = 0 := by omega
      subst hP
      clear hr
      go_wp2
      go_ret
      exact ⟨rfl, rfl⟩

/-- What lengths take of 1, noughts passed over. -/
def ks0 (z : Nat → Int) : Nat → Nat
  | 0 => 0
  | k + 1 => ks0 z k + if 0 < z k then wt (z k) else 0

theorem kr_ks0 (z : Nat → Int) (n : Nat) (h : ∀ i, i < n → 0 ≤ z i ∧ z i ≤ 15) : kr (cntN z n) 15 = ks0 z n := by
  induction n with
  | zero => exact kr_ks z 0 (fun i hi => absurd hi (by omega))
  | succ n ih =>
    have e : cntN z (n + 1) = fun l => cntN z n l + if z n = (l : Int) then 1 else 0 := by
      funext l; rfl
    have hn := h n (by omega)
    rw [e, kr_add, ih (fun i hi => h i (by omega))]
    simp only [ks0]
    by_cases h0 : 0 < z n
    · rw [if_pos h0, if_pos (by omega)]
    · rw [if_neg h0, if_neg (by omega)]

theorem wt_le (v : Int) : wt v ≤ 32768 := pow_le_15 _

theorem ks0_leC (C : Nat) (h : ∀ v, wt v ≤ C) (z : Nat → Int) (n : Nat) : ks0 z n ≤ n * C := by
  induction n with
  | zero => simp [ks0]
  | succ n ih =>
    have h1 := h (z n)
    rw [Nat.succ_mul]
    simp only [ks0]
    by_cases h0 : 0 < z n
    · simp only [if_pos h0]; omega
    · simp only [if_neg h0]; omega

theorem ks0_le (z : Nat → Int) (n : Nat) : ks0 z n ≤ n * 32768 := ks0_leC 32768 wt_le z n

set_option maxHeartbeats 400000 in
theorem rleft_any (b off n cap : Nat) (z : Nat → Int) (w : World) (hz : IntsAt w b off n z) (hn : n ≤ 1048576) (hr : ∀ i, i < n → 0 ≤ z i ∧ z i ≤ 15) :
    Calls Tryz.prog 114 #[.slice (some ⟨b, off, none⟩) n cap] w fun e w' => e = .returned (.int .i64 (32768 - (ks0 z n : Nat))) ∧ w' = w := by
  go_enter Tryz.func114, Tryz.ntmps114
  go_wp2
  go_loop [3, 4] (fun p i => ∃ k : Nat, k ≤ n ∧ i = .int .i64 k ∧ p = .int .i64 (32768 - (ks0 z k : Nat))) (fun _ i => n - (intOf i).toNat)
  case atStart => exact ⟨0, by omega, rfl, by simp [ks0]⟩
  case round =>
    obtain ⟨k, hk, rfl, rfl⟩ := hrel
    by_cases hlt : k < n
    · have hc := hz.cell k hlt
      have hr1 := hr k hlt
      obtain ⟨m, hm⟩ := Int.eq_ofNat_of_zero_le hr1.1
      rw [hm] at hc hr1
      have hkl := ks0_le z k
      have hw := wt_le (z k)
      by_cases h0 : m = 0
      · subst h0
        have HK : Hid (ks0 z (k + 1) = ks0 z k) := by show ks0 z (k + 1) = ks0 z k; simp only [ks0, hm]; simp
        clear hm
        go_wp2
        go_round
        case rel => exact ⟨k + 1, by omega, by go_num, by rw [HK.out]⟩
        case measure => simp [intOf]; omega
      · have hp : 0 < (m : Int) := by omega
        have HK : Hid (ks0 z (k + 1) = ks0 z k + 2 ^ (15 - m)) := by
          show ks0 z (k + 1) = ks0 z k + 2 ^ (15 - m)
          simp only [ks0, hm, wt, Int.toNat_natCast]
          rw [if_pos hp]
        have hPb := pow_le_15 m
        clear hm hw
        go_wp2_with fail
        refine (rpart_any m _ (by omega)).mono ?_
        rintro e w' ⟨rfl, rfl⟩
        obtain ⟨P, hP⟩ : ∃ P, P = 2 ^ (15 - m) := ⟨_, rfl⟩
        rw [← hP] at hPb ⊢
        have HP : Hid (P = 2 ^ (15 - m)) := hP
        clear hP
        go_wp2
        go_round
        case rel => exact ⟨k + 1, by omega, by go_num, by rw [HK.out, ← HP.out]; go_num⟩
        case measure => simp [intOf]; omega
    · obtain rfl : k = n := by omega
      go_wp2
      go_ret
      exact ⟨rfl, rfl⟩

end Go.Proofs.YtecddphahiadlaaGreatDoor

/- The contract of the reference's codes. -/
namespace Go.Proofs.YtecddphahiadlaaGreatDoor
open Go.RowKit

theorem fi_topL (c : Nat → Nat) (m : Nat) (h1 : 1 ≤ m) (h2 : m ≤ 15) (hk : kr c 15 ≤ 32768) : fi c m + c m ≤ 2 ^ m := by
  obtain ⟨q, rfl⟩ : ∃ q, m = q + 1 := ⟨m - 1, by omega⟩
  have h := fi_kr c q (by omega)
  have h3 := kr_succ c q
  have h4 := Nat.le_trans (kr_mono c (show q + 1 ≤ 15 by omega)) hk
  rw [h3, ← h, ← Nat.add_mul] at h4
  have e : (32768 : Nat) = 2 ^ (q + 1) * 2 ^ (15 - (q + 1)) := by
    rw [← Nat.pow_add, show q + 1 + (15 - (q + 1)) = 15 from by omega]
  rw [e] at h4
  exact Nat.le_of_mul_le_mul_right h4 (Nat.two_pow_pos _)

/-- The number behind all codes of at most q letters. -/
def nxt (c : Nat → Nat) (q : Nat) : Nat := if q = 0 then 0 else fi c q + c q

theorem nxt_two (c : Nat → Nat) (q : Nat) : nxt c q * 2 = fi c (q + 1) := by
  unfold nxt
  match q with
  | 0 => simp [fi]
  | q + 1 => rw [if_neg (by omega)]; simp only [fi]

theorem nxt_le (c : Nat → Nat) (q : Nat) (hq : q ≤ 15) (hk : kr c 15 ≤ 32768) : nxt c q ≤ 32768 := by
  unfold nxt
  by_cases h0 : q = 0
  · rw [if_pos h0]; omega
  · rw [if_neg h0]
    have h1 := fi_topL c q (by omega) hq hk
    have h3 : 2 ^ q ≤ 2 ^ 15 := Nat.pow_le_pow_right (by omega) (by omega)
    have h4 : (2 : Nat) ^ 15 = 32768 := rfl
    omega

structure RCRel (w wr : World) (z : Nat → Int) (n g q k : Nat) : Prop where
  below : Below w.heap.size w wr
  le : w.heap.size ≤ g
  row : wr.rowIs g 9 n (fun i => .string (if (1 ≤ z i ∧ z i ≤ (q : Int)) ∨ (z i = (q : Int) + 1 ∧ i < k) then codeT z n i else .empty))

theorem rc_start (w : World) (z : Nat → Int) (n : Nat) : RCRel w (w.alloc (.cells (madeCells #[.string .empty] n) 9)) z n w.heap.size 0 0 := by
  refine ⟨(Below.refl _ _).alloc (Nat.le_refl _) _, Nat.le_refl _, (World.rowIs_made w (.string .empty) n 9).congr (fun i _ => ?_)⟩
  rw [if_neg (by omega)]

theorem rc_next {w wr : World} {z : Nat → Int} {n g q : Nat} (h : RCRel w wr z n g q n) : RCRel w wr z n g (q + 1) 0 := by
  refine ⟨h.below, h.le, h.row.congr (fun i hi => ?_)⟩
  by_cases e : (1 ≤ z i ∧ z i ≤ (q : Int)) ∨ (z i = (q : Int) + 1 ∧ i < n)
  · rw [if_pos e, if_pos (by omega)]
  · rw [if_neg e, if_neg (by omega)]

theorem rc_pass {w wr : World} {z : Nat → Int} {n g q k : Nat} (h : RCRel w wr z n g q k) (hz : z k ≠ (q : Int) + 1) : RCRel w wr z n g q (k + 1) := by
  refine ⟨h.below, h.le, h.row.congr (fun i hi => ?_)⟩
  by_cases e : (1 ≤ z i ∧ z i ≤ (q : Int)) ∨ (z i = (q : Int) + 1 ∧ i < k)
  · rw [if_pos e, if_pos (by omega)]
  · rw [if_neg e, if_neg]
    rintro (h1 | ⟨h1, h2⟩)
    · exact e (Or.inl h1)
    · by_cases e2 : i = k
      · subst e2; exact hz h1
      · exact e (Or.inr ⟨h1, by omega⟩)

theorem rc_step {w wr : World} {z : Nat → Int} {n g q k p : Nat} (h : RCRel w wr z n g q k) (hz : z k = (q : Int) + 1) (hp : p = fi (cntN z n) (q + 1) + cntN z k (q + 1)) :
    RCRel w (wr.setCell ⟨g, k, none⟩ (.string (bitsB p (q + 1)))) z n g q (k + 1) := by
  refine ⟨h.below.setCell h.le _, h.le, (h.row.set k _).congr (fun i hi => ?_)⟩
  by_cases e2 : i = k
  · subst e2
    rw [if_pos rfl, if_pos (by omega)]
    have e3 : (z i).toNat = q + 1 := by omega
    unfold codeT codeN
    rw [if_neg (by omega), e3, hp]
  · rw [if_neg e2]
    by_cases e : (1 ≤ z i ∧ z i ≤ (q : Int)) ∨ (z i = (q : Int) + 1 ∧ i < k)
    · rw [if_pos e, if_pos (by omega)]
    · rw [if_neg e, if_neg (by omega)]

theorem rc_end {w wr : World} {z : Nat → Int} {n g : Nat} (h : RCRel w wr z n g 15 0) (hr : ∀ i, i < n → 0 ≤ z i ∧ z i ≤ 15) : wr.rowIs g 9 n (fun i => .string (codeT z n i)) := by
  refine h.row.congr (fun i hi => ?_)
  have := hr i hi
  by_cases e : (1 ≤ z i ∧ z i ≤ ((15 : Nat) : Int)) ∨ (z i = ((15 : Nat) : Int) + 1 ∧ i < 0)
  · rw [if_pos e]
  · rw [if_neg e]
    unfold codeT
    rw [if_pos (by omega)]

theorem rtext_at (x m : Nat) (mi : Int) (hmi : mi = (m : Int)) (w : World) (hx : x < 2 ^ m) (hm : m ≤ 15) :
    Calls Tryz.prog 128 #[.int .i64 x, .int .i64 mi] w fun e w' => e = .returned (.string (bitsB x m)) ∧ w' = w := by
  subst hmi
  exact rtext_any x m w hx hm

set_option maxHeartbeats 400000 in
theorem rcodes_any (b off n cap : Nat) (z : Nat → Int) (w : World) (hz : IntsAt w b off n z) (hn : n ≤ 288) (hr : ∀ i, i < n → 0 ≤ z i ∧ z i ≤ 15) (hk : kr (cntN z n) 15 ≤ 32768) :
    Calls Tryz.prog 110 #[.slice (some ⟨b, off, none⟩) n cap] w fun e w' => e = .returned (.slice (some ⟨w.heap.size, 0, none⟩) n n) ∧ w'.rowIs w.heap.size 9 n (fun i => .string (codeT z n i)) ∧ Below w.heap.size w w' := by
  have hmk := run_make_row' (P := Tryz.prog) 56 9 (.string .empty) 16 Tryz.underlying56 Tryz.info9 rfl .i64 .i64 n (by omega) (by omega)
  have RS := rc_start w z n
  go_enter Tryz.func110, Tryz.ntmps110
  go_wp2
  go_loopw [4, 5] (fun x l wr => ∃ q : Nat, q ≤ 15 ∧ l = .int .i64 (q + 1 : Nat) ∧ x = .int .i64 (nxt (cntN z n) q : Nat) ∧ RCRel w wr z n w.heap.size q 0) (fun _ l _ => 16 - (intOf l).toNat)
  case atStart => exact ⟨0, by omega, rfl, rfl, RS⟩
  case round =>
    obtain ⟨q, hq, rfl, rfl, hrel⟩ := hrel
    clear RS hmk
    by_cases hlt : q < 15
    · have hnx := nxt_le (cntN z n) q hq hk
      have hn2 := nxt_two (cntN z n) q
      obtain ⟨x, hx⟩ : ∃ x, x = nxt (cntN z n) q := ⟨_, rfl⟩
      rw [← hx] at hnx hn2 ⊢
      clear hx
      have HX : Hid (x * 2 = fi (cntN z n) (q + 1)) := hn2
      clear hn2
      obtain ⟨m, hm⟩ : ∃ m, m = q + 1 := ⟨_, rfl⟩
      rw [← hm]
      have HM : Hid (m = q + 1) := hm
      have hm1 : q + 1 ≤ m := by omega
      have hm2 : m ≤ q + 1 := by omega
      clear hm
      have hmb : decide ((m : Int) ≤ 15) = true := by rw [decide_eq_true_iff]; omega
      go_wp2
      go_loopw [4, 6] (fun x i wr => ∃ k : Nat, k ≤ n ∧ i = .int .i64 k ∧ x = .int .i64 (fi (cntN z n) (q + 1) + cntN z k (q + 1) : Nat) ∧ RCRel w wr z n w.heap.size q k) (fun _ i _ => n - (intOf i).toNat)
      case atStart => exact ⟨0, by omega, rfl, by rw [← HX.out]; simp [cntN]; omega, hrel⟩
      case round =>
        obtain ⟨k, hk', rfl, rfl, hrel⟩ := hrel
        by_cases hlk : k < n
        · have hc := (hz.later hrel.below).cell k hlk
          have hf := hrel.row.frozen k
          have hcr := hrel.row.cell hlk
          have hft := fi_topL (cntN z n) (q + 1) (by omega) (by omega) hk
          by_cases he : z k = (q : Int) + 1
          · have hcl := cntN_lt z (m := q + 1) hlk (by omega)
            have hcs : cntN z (k + 1) (q + 1) = cntN z k (q + 1) + 1 := by
              simp only [cntN]; rw [if_pos (by omega)]
            obtain ⟨p, hp⟩ : ∃ p, p = fi (cntN z n) (q + 1) + cntN z k (q + 1) := ⟨_, rfl⟩
            have R := rc_step hrel he hp
            rw [← HM.out] at R
            have he' : z k = (m : Int) := by omega
            rw [he'] at hc
            have hpb : p < 2 ^ m := by rw [HM.out]; omega
            have HP : Hid (((p : Int) + 1) = ((fi (cntN z n) (q + 1) + cntN z (k + 1) (q + 1) : Nat) : Int)) := by
              show ((p : Int) + 1) = _
              rw [hcs]; omega
            rw [← hp]
            have hpb2 : p < 32768 := by
              have h3 : 2 ^ m ≤ 2 ^ 15 := Nat.pow_le_pow_right (by omega) (by omega)
              have h4 : (2 : Nat) ^ 15 = 32768 := rfl
              omega
            have HPB : Hid (p < 2 ^ m) := hpb
            clear hp he he' hcs hcl hft hpb hcr
            have hcr := hrel.row.cell hlk
            go_wp2_with fail
            refine (rtext_any p m _ HPB.out (by omega)).mono ?_
            rintro e w' ⟨rfl, rfl⟩
            go_wp2
            go_roundw
            case rel => exact ⟨k + 1, by omega, by go_num, congrArg (Value.int .i64) HP.out, R⟩
            case measure => simp [intOf]; omega
          · have hcs : cntN z (k + 1) (q + 1) = cntN z k (q + 1) := by
              simp only [cntN]; rw [if_neg (by omega)]; rfl
            have hne : (z k == (m : Int)) = false := by rw [beq_eq_false_iff_ne]; omega
            have R := rc_pass hrel he
            have HC : Hid (cntN z (k + 1) (q + 1) = cntN z k (q + 1)) := hcs
            clear hcs hft
            go_wp2
            go_roundw
            case rel => exact ⟨k + 1, by omega, by go_num, by rw [HC.out], R⟩
            case measure => simp [intOf]; omega
        · obtain rfl : k = n := by omega
          have R := rc_next hrel
          go_wp2
          go_roundw
          case rel => exact ⟨q + 1, by omega, by go_num, by unfold nxt; rw [if_neg (by omega)], R⟩
          case measure => simp [intOf]; omega
    · obtain rfl : q = 15 := by omega
      have R := rc_end hrel hr
      go_wp2
      go_ret
      exact ⟨rfl, R, hrel.below⟩

theorem fitB_of_ok {z : Nat → Int} {n : Nat} (h : okB z n = true) (hr : ∀ i, i < n → 0 ≤ z i ∧ z i ≤ 15) : fitB z n = decide (ks0 z n = 32768) := by
  unfold fitB
  rw [h, kr_ks0 z n hr, Bool.true_and]

theorem fitB_zero (z : Nat → Int) : fitB z 0 = false := by
  have h : okB z 0 = true := okB_yes (by omega) (fun i hi => absurd hi (by omega))
  rw [fitB_of_ok h (fun i hi => absurd hi (by omega))]
  rfl

set_option maxHeartbeats 400000 in
theorem rleft_nil (ao : Option Addr) (cap : Nat) (w : World) : Calls Tryz.prog 114 #[.slice ao 0 cap] w fun e w' => e = .returned (.int .i64 32768) ∧ w' = w := by
  go_enter Tryz.func114, Tryz.ntmps114
  go_wp2
  go_loop [3, 4] (fun p i => i = .int .i64 0 ∧ p = .int .i64 32768) (fun _ i => (intOf i).toNat)
  case atStart => exact ⟨rfl, rfl⟩
  case round =>
    obtain ⟨rfl, rfl⟩ := hrel
    go_wp2
    go_ret
    exact ⟨rfl, rfl⟩

end Go.Proofs.YtecddphahiadlaaGreatDoor
