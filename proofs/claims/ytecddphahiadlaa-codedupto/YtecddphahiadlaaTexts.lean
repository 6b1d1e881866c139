/- The contract of Texts. -/
import Derived.Test.YtecddphahiadlaaCount
import Derived.Test.YtecddphahiadlaaFirst
import Derived.Test.YtecddphahiadlaaText
import Derived.Deep.WholeRow
namespace Go.Proofs.Ytecddphahiadlaa
open Go.RowKit

structure TextsRel (w wr : World) (z : Nat → Int) (n g6 g k : Nat) : Prop where
  below : Below w.heap.size w wr
  le6 : w.heap.size ≤ g6
  le : w.heap.size ≤ g
  ne : g6 ≠ g
  next : wr.rowIs g6 62 16 (fun l => .int .i64 (fi (cntN z n) l + (if l = 0 then 0 else cntN z k l) : Nat))
  row : wr.rowIs g 9 n (fun i => .string (if i < k then codeT z n i else .empty))


/-- What Texts answers. -/
def TextsPost (w : World) (z : Nat → Int) (n : Nat) (e : Ending) (w' : World) : Prop :=
  (fitB z n = false ∧ e = .returned (.tuple #[.slice none 0 0, .bool false]) ∧ Below w.heap.size w w') ∨
  (fitB z n = true ∧ ∃ g, e = .returned (.tuple #[.slice (some ⟨g, 0, none⟩) n n, .bool true]) ∧ w.heap.size ≤ g ∧ w'.rowIs g 9 n (fun i => .string (codeT z n i)) ∧ Below w.heap.size w w')

theorem texts_start {w w3 : World} {z : Nat → Int} {n : Nat} {F : Array Value} (hb : Below w.heap.size w w3) (tF : IsTal F (fi (cntN z n))) :
    TextsRel w ((w3.alloc (.cells F 62)).alloc (.cells (madeCells #[.string .empty] n) 9)) z n w3.heap.size (w3.heap.size + 1) 0 := by
  have h1 := hb.size
  have e1 : (w3.alloc (.cells F 62)).heap.size = w3.heap.size + 1 := by simp
  refine ⟨(hb.alloc h1 _).alloc (by simp; omega) _, h1, by omega, by omega, ((tF.rowIs w3 62).alloc _).congr (fun i _ => ?_), ?_⟩
  · simp [cntN]
  · have := World.rowIs_made (w3.alloc (.cells F 62)) (.string .empty) n 9
    rw [e1] at this
    exact this.congr (fun i _ => by simp)

theorem texts_step {w wr w4 : World} {z : Nat → Int} {n g6 g k m q : Nat} (h : TextsRel w wr z n g6 g k) (hm : z k = (m : Int)) (h0 : m ≠ 0)
    (hb : Below wr.heap.size wr w4) (hq : q = fi (cntN z n) m + cntN z k m) :
    TextsRel w ((w4.setCell ⟨g, k, none⟩ (.string (bitsB q m))).setCell ⟨g6, m, none⟩ (.int .i64 ((q : Int) + 1))) z n g6 g (k + 1) := by
  subst hq
  have hl6 := h.next.lt
  have hl := h.row.lt
  have hne := h.ne
  have b4 : Below w.heap.size w w4 := h.below.trans (hb.mono h.below.size)
  have n4 := h.next.of_block (hb.block g6 hl6)
  have r4 := h.row.of_block (hb.block g hl)
  refine ⟨(b4.setCell h.le _).setCell h.le6 _, h.le6, h.le, h.ne, ((n4.setOther h.ne _).set m _).congr (fun i _ => ?_), ((r4.set k _).setOther (fun e => h.ne e.symm) _).congr (fun i _ => ?_)⟩
  · by_cases e : i = m
    · subst e
      have e1 : cntN z (k + 1) i = cntN z k i + 1 := by simp [cntN, hm]
      rw [if_pos rfl, if_neg h0, e1]
      simp only [Value.int.injEq, true_and]
      omega
    · have e1 : cntN z (k + 1) i = cntN z k i := by
        simp only [cntN]
        rw [if_neg (fun h' => e (by rw [hm] at h'; omega)), Nat.add_zero]
      rw [if_neg e, e1]
  · by_cases e : i = k
    · subst e
      rw [if_pos rfl, if_pos (by omega)]
      have hz0 : ¬ ((m : Int) = 0) := by omega
      simp only [codeT, codeN, hm]
      rw [if_neg hz0, Int.toNat_natCast]
    · rw [if_neg e]
      by_cases hlt : i < k
      · rw [if_pos hlt, if_pos (by omega)]
      · rw [if_neg hlt, if_neg (by omega)]

theorem texts_pass {w wr : World} {z : Nat → Int} {n g6 g k : Nat} (h : TextsRel w wr z n g6 g k) (h0 : z k = 0) : TextsRel w wr z n g6 g (k + 1) := by
  refine ⟨h.below, h.le6, h.le, h.ne, h.next.congr (fun i _ => ?_), h.row.congr (fun i _ => ?_)⟩
  · simp only [cntN]
    by_cases e : i = 0
    · rw [if_pos e, if_pos e]
    · rw [if_neg e, if_neg e, if_neg (by rw [h0]; omega), Nat.add_zero]
  · by_cases e : i = k
    · subst e
      rw [if_neg (by omega), if_pos (by omega)]
      simp [codeT, h0]
    · by_cases hlt : i < k
      · rw [if_pos hlt, if_pos (by omega)]
      · rw [if_neg hlt, if_neg (by omega)]

set_option maxRecDepth 4000 in
set_option maxHeartbeats 400000 in
theorem texts_any (b off n cap : Nat) (z : Nat → Int) (w : World) (hz : IntsAt w b off n z) (hn : n ≤ 9223372036854775807) :
    Calls Try.prog 18 #[.slice (some ⟨b, off, none⟩) n cap] w (TextsPost w z n) := by
  go_enter Try.func18, Try.ntmps18
  go_wp2_with fail
  refine (count_any b off n cap z _ hz hn).mono ?_
  rintro e w1 ⟨A, c, rfl, tA, hcA, hb1⟩
  have hnew := heap_alloc_last w1 (.cells A 63)
  have hi : (Try.prog.info? 63).map (·.size) = some A.size := by rw [tA.size]; exact Try.size63
  have hzs : zeros16.size = A.size := by rw [tA.size]; rfl
  have hall := tA.all
  cases hok : okB z n
  · go_wp2_with (refine wpList_store_new rfl 63 (.tmp 4) (.tmp 13) rfl A rfl rfl zeros16 hi hzs hall ?_)
    go_ret2
    exact Or.inl ⟨by simp [fitB, hok], rfl, hb1.alloc hb1.size _⟩
  · obtain rfl := hcA hok
    obtain ⟨hn288, hin⟩ := (okB_iff z n).1 hok
    have hc : ∀ i, cntN z n i ≤ 288 := fun i => Nat.le_trans (cntN_le z n i) hn288
    go_wp2_with (first | (refine wpList_store_new rfl 63 (.tmp 4) (.tmp 13) rfl A rfl rfl zeros16 hi hzs hall ?_) | (refine wpList_load_row_g rfl 63 (.tmp 4) rfl w1.heap.size rfl 63 A (0, 0) _ hnew Try.underlying63 rfl hi ?_) | fail)
    refine (fit_any A _ _ tA hc).mono ?_
    rintro e w2 ⟨rfl, hb2⟩
    have hnew2 : w2.heap[w1.heap.size]? = some (.cells A 63 (0, 0)) := (hb2.block w1.heap.size (by simp)).trans hnew
    have hbb2 : Below w.heap.size w w2 := (hb1.alloc hb1.size _).trans (hb2.mono (by simp; have := hb1.size; omega))
    have HO : Hid (okB z n = true) := hok
    clear hok hb2 hnew hzs hall
    by_cases hkr : kr (cntN z n) 15 = 32768
    · have HF : Hid (fitB z n = true) := by show fitB z n = true; simp only [fitB, Bool.and_eq_true, decide_eq_true_eq]; exact ⟨HO.out, hkr⟩
      go_wp2_with (first | (refine wpList_load_row_g rfl 63 (.tmp 4) rfl w1.heap.size rfl 63 A (0, 0) _ hnew2 Try.underlying63 rfl hi ?_) | fail)
      refine (firsts_any A _ _ tA hc).mono ?_
      rintro e w3 ⟨F, rfl, tF, hb3⟩
      have hiF : (Try.prog.info? 62).map (·.size) = some F.size := by rw [tF.size]; exact Try.size62
      have hzsF : zeros16.size = F.size := by rw [tF.size]; rfl
      have hallF := tF.all
      have hbb3 : Below w.heap.size w w3 := hbb2.trans (hb3.mono hbb2.size)
      have hmk := run_make_row' (P := Try.prog) 25 9 (.string .empty) 16 Try.underlying25 Try.info9 rfl .i64 .i64 n (by omega) (by omega)
      have RS := texts_start hbb3 tF
      clear hb3 hnew2 hi
      go_wp2_with (first | (refine wpList_store_new rfl 62 (.tmp 6) (.tmp 23) rfl F rfl rfl zeros16 hiF hzsF hallF ?_) | fail)
      go_loopw [29] (fun l wr => ∃ k : Nat, k ≤ n ∧ l = .int .i64 k ∧ TextsRel w wr z n w3.heap.size (w3.heap.size + 1) k) (fun l _ => n - (intOf l).toNat)
      case atStart => exact ⟨0, by omega, rfl, RS⟩
      case round =>
        obtain ⟨k, hk, rfl, hrel⟩ := hrel
        clear RS hmk hiF hzsF hallF
        by_cases hlt : k < n
        · have hc := (hz.later hrel.below).cell k hlt
          have hr := hin k hlt
          obtain ⟨m, hm⟩ := Int.eq_ofNat_of_zero_le hr.1
          rw [hm] at hc hr
          by_cases h0 : m = 0
          · subst h0
            have R := texts_pass hrel hm
            have HM : Hid (z k = 0) := hm
            clear hm
            go_wp2
            go_roundw
            case rel => exact ⟨k + 1, by omega, by go_num, R⟩
            case measure => simp [intOf]; omega
          · have h0' : ((m : Int) == 0) = false := by rw [beq_eq_false_iff_ne]; omega
            have hx := codeN_lt15 HF.out hlt (by rw [hm]; omega)
            simp only [codeN, hm, Int.toNat_natCast] at hx
            have HM : Hid (z k = (m : Int)) := hm
            clear hm
            have hcn := hrel.next.cell (i := m) (by omega)
            rw [if_neg h0] at hcn
            obtain ⟨q, hq⟩ : ∃ q, q = fi (cntN z n) m + cntN z k m := ⟨_, rfl⟩
            rw [← hq] at hcn hx
            have HQ : Hid (q = fi (cntN z n) m + cntN z k m) := hq
            clear hq
            go_wp2_with fail
            refine (text_any q m _ hx (by omega)).mono ?_
            rintro e w4 ⟨rfl, hb4⟩
            have R := texts_step hrel HM.out h0 hb4 HQ.out
            have n4 := hrel.next.of_block (hb4.block _ hrel.next.lt)
            have r4 := hrel.row.of_block (hb4.block _ hrel.row.lt)
            have k1 := r4.cell hlt
            have k2 := r4.frozen k
            have k3 : w4.cell? ⟨w3.heap.size, m, none⟩ = some (.int .i64 (q : Int)) := (hb4.cell (p := ⟨w3.heap.size, m, none⟩) hrel.next.lt).trans hcn
            have k4 := n4.frozen m
            clear hcn n4 r4 hc
            go_wp2
            go_roundw
            case rel => exact ⟨k + 1, by omega, by go_num, R⟩
            case measure => simp [intOf]; omega
        · obtain rfl : k = n := by omega
          go_wp2
          go_ret2
          exact Or.inr ⟨HF.out, w3.heap.size + 1, rfl, hrel.le, hrel.row.congr (fun i hi => by rw [if_pos hi]), hrel.below⟩
    · go_wp2
      go_ret2
      exact Or.inl ⟨by simp [fitB, hkr], rfl, hbb2⟩

end Go.Proofs.Ytecddphahiadlaa
