/- The program's few and arrange. -/
import Derived.Test.YtnfghnolklhppaaDoorGSetF
import Derived.Deep.WholeRow
namespace Go.Proofs.YtnfghnolklhppaaDoor
open Go.RowKit

theorem few_no {c : Nat → Nat} {l : Nat} (h15 : l < 14) (h : 0 < c (l + 2)) : fewB c = false := by
  rw [Bool.eq_false_iff]
  intro h1
  have := ((fewB_iff c).1 h1).1 l h15
  omega
theorem few_end {c : Nat → Nat} (h : ∀ l, l < 14 → c (l + 2) = 0) : fewB c = decide (c 1 ≤ 1) := by
  rw [Bool.eq_iff_iff, fewB_iff, decide_eq_true_iff]
  exact ⟨fun x => x.2, fun x => ⟨h, x⟩⟩

set_option maxHeartbeats 400000 in
theorem few_any (A : Array Value) (c : Nat → Nat) (w : World) (hA : IsTal A c) :
    Calls Tryd.prog 84 #[.agg A] w fun e w' => e = .returned (.bool (fewB c)) ∧ Below w.heap.size w w' := by
  have hrow := hA.rowIs w 78
  go_enter Tryd.func84, Tryd.ntmps84
  go_wp2
  go_loop [3] (fun l => ∃ n : Nat, n ≤ 14 ∧ l = .int .i64 (n + 2 : Nat) ∧ ∀ l, 2 ≤ l → l < n + 2 → c l = 0) (fun l => 17 - (intOf l).toNat)
  case atStart => exact ⟨0, by omega, rfl, fun l h1 h2 => by omega⟩
  case round =>
    obtain ⟨n, hn, rfl, hrel⟩ := hrel
    by_cases hlt : n < 14
    · have hcell := hrow.cell (i := n + 2) (by omega)
      by_cases h0 : 0 < c (n + 2)
      · have HF : Hid (fewB c = false) := few_no (l := n) hlt h0
        go_wp2
        go_ret
        exact ⟨by rw [HF.out]; rfl, (Below.refl _ _).alloc (Nat.le_refl _) _⟩
      · have HR : Hid (∀ l, 2 ≤ l → l < n + 1 + 2 → c l = 0) := by
          show ∀ l, 2 ≤ l → l < n + 1 + 2 → c l = 0
          intro l h1 h2
          by_cases e : l = n + 2
          · subst e; omega
          · exact hrel l h1 (by omega)
        clear hrel
        go_wp2
        go_round
        case rel => exact ⟨n + 1, by omega, by go_num, HR.out⟩
        case measure => simp [intOf]; omega
    · obtain rfl : n = 14 := by omega
      have HF : Hid (fewB c = decide (c 1 ≤ 1)) := few_end (fun l h1 => hrel (l + 2) (by omega) (by omega))
      have hcell := hrow.cell (i := 1) (by omega)
      clear hrel
      go_wp2
      go_ret
      exact ⟨ret_bool (by rw [HF.out]; first | rfl | (rw [decide_eq_decide]; omega)), (Below.refl _ _).alloc (Nat.le_refl _) _⟩

structure ArrA (w wr : World) (c : Nat → Nat) (n : Nat) : Prop where
  below : Below w.heap.size w wr
  cnt : wr.rowIs w.heap.size 78 16 (fun i => .int .i64 (c i))
  next : wr.rowIs (w.heap.size + 1) 78 16 (fun i => .int .i64 (if i ≤ n then pas c (i - 1) else 0 : Nat))

theorem arr_start (w : World) (A : Array Value) (c : Nat → Nat) (hA : IsTal A c) : ArrA w ((w.alloc (.cells A 78)).alloc (.cells zeros16 78)) c 1 := by
  have e1 : (w.alloc (.cells A 78)).heap.size = w.heap.size + 1 := by simp
  refine ⟨((Below.refl _ _).alloc (Nat.le_refl _) _).alloc (by simp) _, (hA.rowIs w 78).alloc _, ?_⟩
  have := zeros16_tal.rowIs (w.alloc (.cells A 78)) 78
  rw [e1] at this
  refine this.congr (fun i _ => ?_)
  match i with
  | 0 => simp [pas]
  | 1 => simp [pas]
  | i + 2 => simp

theorem pas_wrap (c : Nat → Nat) (hc : ∀ i, c i ≤ 288) : ∀ n, pas c n ≤ 288 * n
  | 0 => by simp [pas]
  | n + 1 => by have := pas_wrap c hc n; have := hc (n + 1); rw [pas_succ]; omega

theorem arr_step {w wr : World} {c : Nat → Nat} {n : Nat} (h : ArrA w wr c (n + 1)) :
    ArrA w (wr.setCell ⟨w.heap.size + 1, n + 2, none⟩ (.int .i64 ((pas c n : Int) + (c (n + 1) : Int)))).drew c (n + 2) := by
  refine ⟨(h.below.setCell (by show w.heap.size ≤ w.heap.size + 1; omega) _).drew, (h.cnt.setOther (by show w.heap.size ≠ w.heap.size + 1; omega) _).drew, ((h.next.set (n + 2) _).congr (fun i _ => ?_)).drew⟩
  by_cases e : i = n + 2
  · subst e
    rw [if_pos rfl, if_pos (Nat.le_refl _)]
    have e1 : n + 2 - 1 = n + 1 := by omega
    rw [e1, pas_succ]
    simp
  · rw [if_neg e]
    by_cases hle : i ≤ n + 1
    · rw [if_pos hle, if_pos (by omega)]
    · rw [if_neg hle, if_neg (by omega)]

structure ArrB (w wr : World) (z : Nat → Int) (n g6 g T k : Nat) : Prop where
  below : Below w.heap.size w wr
  le6 : w.heap.size ≤ g6
  le : w.heap.size ≤ g
  ne : g6 ≠ g
  next : wr.rowIs g6 78 16 (fun l => .int .i64 (if l = 0 then 0 else pas (cntN z n) (l - 1) + cntN z k l : Nat))
  row : wr.rowIs g 3 T (fun p => .int .i64 (syF z n k p : Nat))

theorem arrB_start {w wr : World} {z : Nat → Int} {n T : Nat} (h : ArrA w wr (cntN z n) 15) :
    ArrB w (wr.alloc (.cells (madeCells #[.int .i64 0] T) 3)) z n (w.heap.size + 1) wr.heap.size T 0 := by
  have h1 := h.below.size
  have h2 := h.next.lt
  refine ⟨h.below.alloc h1 _, by omega, h1, by omega, (h.next.alloc _).congr (fun i hi => ?_), ?_⟩
  · rw [if_pos (by omega)]
    by_cases e : i = 0
    · subst e; simp [pas]
    · rw [if_neg e]; simp [cntN]
  · exact (World.rowIs_made wr (.int .i64 0) T 3).congr (fun i _ => by simp [syF])

theorem arrB_step {w wr : World} {z : Nat → Int} {n g6 g T k m q : Nat} (h : ArrB w wr z n g6 g T k) (hm : z k = (m : Int)) (h0 : m ≠ 0) (hq : q = pas (cntN z n) (m - 1) + cntN z k m) :
    ArrB w ((wr.setCell ⟨g, q, none⟩ (.int .i64 (k : Nat))).setCell ⟨g6, m, none⟩ (.int .i64 ((q : Int) + 1))) z n g6 g T (k + 1) := by
  have hp : plc z n k = q := by unfold plc; rw [hm, Int.toNat_natCast, hq]
  have hzk : z k ≠ 0 := by rw [hm]; omega
  refine ⟨(h.below.setCell h.le _).setCell h.le6 _, h.le6, h.le, h.ne, ((h.next.setOther h.ne _).set m _).congr (fun i _ => ?_), ((h.row.set q _).setOther (fun e => h.ne e.symm) _).congr (fun i _ => ?_)⟩
  · by_cases e : i = m
    · subst e
      have e1 : cntN z (k + 1) i = cntN z k i + 1 := by simp [cntN, hm]
      rw [if_pos rfl, if_neg h0, e1, hq]
      simp only [Value.int.injEq, true_and]
      omega
    · have e1 : cntN z (k + 1) i = cntN z k i := by
        simp only [cntN]
        rw [if_neg (fun h' => e (by rw [hm] at h'; omega)), Nat.add_zero]
      rw [if_neg e, e1]
  · simp only [syF, hp]
    by_cases e : i = q
    · rw [if_pos e, if_pos ⟨hzk, e⟩]
    · rw [if_neg e, if_neg (fun x => e x.2)]

theorem arrB_pass {w wr : World} {z : Nat → Int} {n g6 g T k : Nat} (h : ArrB w wr z n g6 g T k) (h0 : z k = 0) : ArrB w wr z n g6 g T (k + 1) := by
  refine ⟨h.below, h.le6, h.le, h.ne, h.next.congr (fun i _ => ?_), h.row.congr (fun i _ => ?_)⟩
  · simp only [cntN]
    by_cases e : i = 0
    · rw [if_pos e, if_pos e]
    · rw [if_neg e, if_neg e, if_neg (by rw [h0]; omega), Nat.add_zero]
  · simp only [syF]
    rw [if_neg (fun x => x.1 h0)]

/-- What arrange answers. -/
def ArrPost (w : World) (z : Nat → Int) (n : Nat) (e : Ending) (w' : World) : Prop :=
  ∃ g sy, e = .returned (.slice (some ⟨g, 0, none⟩) (pas (cntN z n) 15) (pas (cntN z n) 15)) ∧ w.heap.size ≤ g ∧ w'.rowIs g 3 (pas (cntN z n) 15) (fun p => .int .i64 (sy p : Nat)) ∧ SyOk z n sy ∧ Below w.heap.size w w'

set_option maxHeartbeats 400000 in
theorem arrange_any (A : Array Value) (b off n cap : Nat) (z : Nat → Int) (w : World) (hA : IsTal A (cntN z n)) (hz : IntsAt w b off n z) (hn : n ≤ 288) (hin : ∀ i, i < n → 0 ≤ z i ∧ z i ≤ 15) :
    Calls Tryd.prog 83 #[.agg A, .slice (some ⟨b, off, none⟩) n cap] w (ArrPost w z n) := by
  have hc : ∀ i, cntN z n i ≤ 288 := fun i => Nat.le_trans (cntN_le z n i) hn
  have hall := pas_all z n hin
  obtain ⟨T, hT⟩ : ∃ T, T = pas (cntN z n) 15 := ⟨_, rfl⟩
  have R0 := arr_start w A (cntN z n) hA
  go_enter Tryd.func83, Tryd.ntmps83
  go_wp2
  go_loopw [6] (fun l wr => ∃ n1 : Nat, n1 ≤ 14 ∧ l = .int .i64 (n1 + 2 : Nat) ∧ ArrA w wr (cntN z n) (n1 + 1)) (fun l _ => 17 - (intOf l).toNat)
  case atStart => exact ⟨0, by omega, rfl, R0⟩
  case round =>
    obtain ⟨n1, hn1, rfl, hrel⟩ := hrel
    clear R0
    by_cases hlt : n1 < 14
    · have c1 := hrel.cnt.cell (i := n1 + 1) (by omega)
      have c2 := hrel.next.cell (i := n1 + 1) (by omega)
      have c3 := hrel.next.cell (i := n1 + 2) (by omega)
      have f3 := hrel.next.frozen (n1 + 2)
      rw [if_pos (Nat.le_refl _), Nat.add_sub_cancel] at c2
      have hp := pas_wrap (cntN z n) hc n1
      have hcc := hc (n1 + 1)
      have R := arr_step hrel
      go_wp2
      go_region
      all_goals go_wp2
      all_goals go_roundw
      case rel => exact ⟨n1 + 1, by omega, by go_num, R⟩
      case measure => simp [intOf]; omega
    · obtain rfl : n1 = 14 := by omega
      have c0 := hrel.cnt.cell (i := 0) (by omega)
      have hc0 := hc 0
      have hTI : (n : Int) - (cntN z n 0 : Int) = (T : Int) := by omega
      have hTb : T ≤ 288 := by omega
      have hmk := run_make_row' (P := Tryd.prog) 29 3 (.int .i64 0) 8 Tryd.underlying29 Tryd.info3 rfl .i64 .i64 T (by omega) (by omega)
      have RS := arrB_start (T := T) hrel
      have HT : Hid (T = pas (cntN z n) 15) := hT
      have hIn := hz.later hrel.below
      obtain ⟨g, hg⟩ : ∃ g, g = wr.heap.size := ⟨_, rfl⟩
      obtain ⟨g6, hg6⟩ : ∃ g6, g6 = w.heap.size + 1 := ⟨_, rfl⟩
      have hwl := hrel.below.size
      clear hrel hall hT
      go_wp2
      rw [← hg, ← hg6] at RS
      rw [← hg, ← hg6]
      clear hg hg6
      go_loopw [33] (fun l wq => ∃ k : Nat, k ≤ n ∧ l = .int .i64 k ∧ ArrB w wq z n g6 g T k) (fun l _ => n - (intOf l).toNat)
      case atStart => exact ⟨0, by omega, rfl, RS⟩
      case round =>
        obtain ⟨k, hk, rfl, hrel⟩ := hrel
        clear RS hmk hIn
        by_cases hlt : k < n
        · have hcl := (hz.later hrel.below).cell k hlt
          have hr := hin k hlt
          obtain ⟨m, hm⟩ := Int.eq_ofNat_of_zero_le hr.1
          rw [hm] at hcl hr
          by_cases h0 : m = 0
          · subst h0
            have R := arrB_pass hrel hm
            clear hm
            go_wp2
            go_roundw
            case rel => exact ⟨k + 1, by omega, by go_num, R⟩
            case measure => simp [intOf]; omega
          · have h0' : ((m : Int) == 0) = false := by rw [beq_eq_false_iff_ne]; omega
            have hcn := hrel.next.cell (i := m) (by omega)
            rw [if_neg h0] at hcn
            obtain ⟨q, hq⟩ : ∃ q, q = pas (cntN z n) (m - 1) + cntN z k m := ⟨_, rfl⟩
            rw [← hq] at hcn
            have hqT : q < T := by
              have h1 := plc_lt (z := z) (n := n) hlt (by rw [hm]; omega)
              have h2 := pas_mono (cntN z n) (show (z k).toNat ≤ 15 by rw [hm]; omega)
              have h3 : plc z n k = q := by unfold plc; rw [hm, Int.toNat_natCast, hq]
              have := HT.out
              omega
            have R := arrB_step hrel hm h0 hq
            have k1 := hrel.row.cell hqT
            have k2 := hrel.row.frozen q
            have k4 := hrel.next.frozen m
            have hne : ¬ g6 = g := hrel.ne
            have hne2 : ¬ g = g6 := fun e => hne e.symm
            have HM : Hid (z k = (m : Int)) := hm
            clear hm hq hrel
            go_wp2
            go_roundw
            case rel => exact ⟨k + 1, by omega, by go_num, R⟩
            case measure => simp [intOf]; omega
        · obtain rfl : k = n := by omega
          have P : ArrPost w z k (.returned (.slice (some ⟨g, 0, none⟩) T T)) wr := by
            have e := HT.out
            subst e
            exact ⟨g, _, rfl, hrel.le, hrel.row, fun i hi h1 => syF_at (fun i hi => (hin i hi).1) k (Nat.le_refl _) i hi h1, hrel.below⟩
          clear hrel
          go_wp2
          go_ret
          exact P

end Go.Proofs.YtnfghnolklhppaaDoor
