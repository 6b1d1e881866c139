/- The contract of Texts. -/
import Derived.Test.YtkgnkidejcdofaaCount
import Derived.Deep.WholeRow
namespace Go.Proofs.Ytkgnkidejcdofaa
open Go.RowKit

theorem kr_succ (c : Nat → Nat) (n : Nat) : kr c (n + 1) = kr c n + c (n + 1) * 2 ^ (15 - (n + 1)) := rfl

theorem kr_mono (c : Nat → Nat) {a b : Nat} (h : a ≤ b) : kr c a ≤ kr c b := by
  induction b with
  | zero => obtain rfl : a = 0 := by omega
            exact Nat.le_refl _
  | succ b ih =>
    by_cases e : a = b + 1
    · rw [e]; exact Nat.le_refl _
    · have := ih (by omega)
      rw [kr_succ]; omega

theorem fi_kr (c : Nat → Nat) (m : Nat) (hm : m < 15) : fi c (m + 1) * 2 ^ (15 - (m + 1)) = kr c m := by
  induction m with
  | zero => simp [fi, kr]
  | succ m ih =>
    have h := ih (by omega)
    have e : 15 - (m + 1) = (15 - (m + 1 + 1)) + 1 := by omega
    rw [kr_succ, ← h]
    simp only [fi]
    rw [e, Nat.pow_succ]
    generalize 2 ^ (15 - (m + 1 + 1)) = p
    rw [Nat.mul_assoc, Nat.mul_comm 2 p, ← Nat.add_mul]

theorem fi_top (c : Nat → Nat) (m : Nat) (h1 : 1 ≤ m) (h2 : m ≤ 15) (hk : kr c 15 = 32768) : fi c m + c m ≤ 2 ^ m := by
  obtain ⟨q, rfl⟩ : ∃ q, m = q + 1 := ⟨m - 1, by omega⟩
  have h := fi_kr c q (by omega)
  have h3 := kr_succ c q
  have h4 := kr_mono c (show q + 1 ≤ 15 by omega)
  rw [hk, h3, ← h, ← Nat.add_mul] at h4
  have e : (32768 : Nat) = 2 ^ (q + 1) * 2 ^ (15 - (q + 1)) := by
    rw [← Nat.pow_add, show q + 1 + (15 - (q + 1)) = 15 from by omega]
  rw [e] at h4
  exact Nat.le_of_mul_le_mul_right h4 (Nat.two_pow_pos _)

theorem cntN_mono (z : Nat → Int) (l : Nat) {a b : Nat} (h : a ≤ b) : cntN z a l ≤ cntN z b l := by
  induction b with
  | zero => obtain rfl : a = 0 := by omega
            exact Nat.le_refl _
  | succ b ih =>
    by_cases e : a = b + 1
    · rw [e]; exact Nat.le_refl _
    · have := ih (by omega)
      simp only [cntN]; omega

theorem cntN_lt (z : Nat → Int) {k n m : Nat} (h : k < n) (hz : z k = (m : Int)) : cntN z k m < cntN z n m := by
  have h1 := cntN_mono z m (show k + 1 ≤ n from h)
  simp only [cntN, hz] at h1
  simp at h1
  omega

/-- The code of symbol i, as a number, if there is one. -/
def codeN (z : Nat → Int) (n i : Nat) : Nat := fi (cntN z n) (z i).toNat + cntN z i (z i).toNat

/-- .. and as a text. -/
def codeT (z : Nat → Int) (n i : Nat) : ByteArray := if z i = 0 then .empty else bitsB (codeN z n i) (z i).toNat

/-- Do the lengths fit? -/
def fitB (z : Nat → Int) (n : Nat) : Bool := okB z n && decide (kr (cntN z n) 15 = 32768)

theorem codeN_lt {z : Nat → Int} {n i : Nat} (hf : fitB z n = true) (hi : i < n) (h0 : z i ≠ 0) : codeN z n i < 2 ^ (z i).toNat := by
  simp only [fitB, Bool.and_eq_true, decide_eq_true_eq] at hf
  have hr := ((okB_iff z n).1 hf.1).2 i hi
  have h1 := fi_top (cntN z n) (z i).toNat (by omega) (by omega) hf.2
  have h2 := cntN_lt z (m := (z i).toNat) hi (by omega)
  unfold codeN
  omega

theorem codeN_lt15 {z : Nat → Int} {n i : Nat} (hf : fitB z n = true) (hi : i < n) (h0 : z i ≠ 0) : codeN z n i < 32768 := by
  have h1 := codeN_lt hf hi h0
  simp only [fitB, Bool.and_eq_true, decide_eq_true_eq] at hf
  have hr := ((okB_iff z n).1 hf.1).2 i hi
  have h3 : 2 ^ (z i).toNat ≤ 2 ^ 15 := Nat.pow_le_pow_right (by omega) (by omega)
  have h4 : (2 : Nat) ^ 15 = 32768 := rfl
  omega

structure TextsRel (w wr : World) (z : Nat → Int) (n g6 g k : Nat) : Prop where
  below : Below w.heap.size w wr
  le6 : w.heap.size ≤ g6
  le : w.heap.size ≤ g
  ne : g6 ≠ g
  next : wr.rowIs g6 51 16 (fun l => .int .i64 (fi (cntN z n) l + (if l = 0 then 0 else cntN z k l) : Nat))
  row : wr.rowIs g 9 n (fun i => .string (if i < k then codeT z n i else .empty))

theorem Try.info9 : (Try.prog.info? 9).map (fun i => (i.zero, i.size, i.bytes)) = some (some (.string .empty), 1, 16) := by kernel_rfl

/-- What Texts answers. -/
def TextsPost (w : World) (z : Nat → Int) (n : Nat) (e : Ending) (w' : World) : Prop :=
  (fitB z n = false ∧ e = .returned (.tuple #[.slice none 0 0, .bool false]) ∧ Below w.heap.size w w') ∨
  (fitB z n = true ∧ ∃ g, e = .returned (.tuple #[.slice (some ⟨g, 0, none⟩) n n, .bool true]) ∧ w.heap.size ≤ g ∧ w'.rowIs g 9 n (fun i => .string (codeT z n i)) ∧ Below w.heap.size w w')

theorem wpList_load_row_g {P : Program} {ops : Array Oper} {rest : List Oper} {o : Oper} {a : Act} {w : World} {Q : Exit → Act → World → Prop} (hgd : Region.wanted o (yielded ops a.tmps) = true) (ty : TypeId) (x : Operand) (ho : o.op = .load ty x)
    (g : Nat) (hx : a.eval x = .pointer (some ⟨g, 0, none⟩)) (t : TypeId) (cs : Array Value) (fr : Nat × Nat) (d : TypeDesc) (hg : w.heap[g]? = some (.cells cs t fr))
    (hu : P.underlying ty = some d) (hd : (match d with | .struct _ | .array _ _ => true | _ => false) = true) (hi : (P.info? ty).map (·.size) = some cs.size)
    (h : wpList P ops Q rest (a.put o.dst (.agg cs)) w) : wpList P ops Q (o :: rest) a w :=
  BigFrame.wpList_want hgd fun _ hK => wp_load_row ty x ho g hx t cs fr d hg hu hd hi (hK _ _ h)

theorem wpList_store_new {P : Program} {ops : Array Oper} {rest : List Oper} {o : Oper} {a : Act} {w : World} {Q : Exit → Act → World → Prop} (hgd : o.guard = none) (ty : TypeId) (x y : Operand) (ho : o.op = .store ty x y)
    (cells : Array Value) (hx : a.eval x = .pointer (some ⟨w.heap.size, 0, none⟩)) (hy : a.eval y = .agg cells)
    (old : Array Value) (hi : (P.info? ty).map (·.size) = some cells.size)
    (hold : old.size = cells.size) (h1 : cells.all (·.oneCell') = true)
    (h : wpList P ops Q rest (a.put o.dst undef) (w.alloc (.cells cells ty))) : wpList P ops Q (o :: rest) a (w.alloc (.cells old ty)) :=
  wpList_store_row hgd ty x y ho w.heap.size cells hx hy ty old (heap_alloc_last w _) hi hold h1 (by rw [World.setRow_alloc_new]; exact h)

theorem texts_start {w w3 : World} {z : Nat → Int} {n : Nat} {F : Array Value} (hb : Below w.heap.size w w3) (tF : IsTal F (fi (cntN z n))) :
    TextsRel w ((w3.alloc (.cells F 51)).alloc (.cells (madeCells #[.string .empty] n) 9)) z n w3.heap.size (w3.heap.size + 1) 0 := by
  have h1 := hb.size
  have e1 : (w3.alloc (.cells F 51)).heap.size = w3.heap.size + 1 := by simp
  refine ⟨(hb.alloc h1 _).alloc (by simp; omega) _, h1, by omega, by omega, ((tF.rowIs w3 51).alloc _).congr (fun i _ => ?_), ?_⟩
  · simp [cntN]
  · have := World.rowIs_made (w3.alloc (.cells F 51)) (.string .empty) n 9
    rw [e1] at this
    exact this.congr (fun i _ => by simp)

theorem texts_step {w wr w4 : World} {z : Nat → Int} {n g6 g k m q : Nat} (h : TextsRel w wr z n g6 g k) (hm : z k = (m : Int)) (h0 : m ≠ 0)
    (hb : Below wr.heap.size wr w4) (hq : q = fi (cntN z n) m + cntN z k m) :
    TextsRel w ((w4.setCell ⟨g, k, none⟩ (.string (bitsB q m))).setCell ⟨g6, m, none⟩ (.int .i64 ((q : Int) + 1))) z n g6 g (k + 1) := by
  subst hq
  have hl6 := h.next.lt
  have hl := h.row.lt
  have hne := h.ne
  have b4 : Below w.heap.size w w4 := h.below.trans (hb.mono h.below.size)
  have n4 := h.next.of_block (hb.block g6 hl6)
  have r4 := h.row.of_block (hb.block g hl)
  refine ⟨(b4.setCell h.le _).setCell h.le6 _, h.le6, h.le, h.ne, ((n4.setOther h.ne _).set m _).congr (fun i _ => ?_), ((r4.set k _).setOther (fun e => h.ne e.symm) _).congr (fun i _ => ?_)⟩
  · by_cases e : i = m
    · subst e
      have e1 : cntN z (k + 1) i = cntN z k i + 1 := by simp [cntN, hm]
      rw [if_pos rfl, if_neg h0, e1]
      simp only [Value.int.injEq, true_and]
      omega
    · have e1 : cntN z (k + 1) i = cntN z k i := by
        simp only [cntN]
        rw [if_neg (fun h' => e (by rw [hm] at h'; omega)), Nat.add_zero]
      rw [if_neg e, e1]
  · by_cases e : i = k
    · subst e
      rw [if_pos rfl, if_pos (by omega)]
      have hz0 : ¬ ((m : Int) = 0) := by omega
      simp only [codeT, codeN, hm]
      rw [if_neg hz0, Int.toNat_natCast]
    · rw [if_neg e]
      by_cases hlt : i < k
      · rw [if_pos hlt, if_pos (by omega)]
      · rw [if_neg hlt, if_neg (by omega)]

theorem texts_pass {w wr : World} {z : Nat → Int} {n g6 g k : Nat} (h : TextsRel w wr z n g6 g k) (h0 : z k = 0) : TextsRel w wr z n g6 g (k + 1) := by
  refine ⟨h.below, h.le6, h.le, h.ne, h.next.congr (fun i _ => ?_), h.row.congr (fun i _ => ?_)⟩
  · simp only [cntN]
    by_cases e : i = 0
    · rw [if_pos e, if_pos e]
    · rw [if_neg e, if_neg e, if_neg (by rw [h0]; omega), Nat.add_zero]
  · by_cases e : i = k
    · subst e
      rw [if_neg (by omega), if_pos (by omega)]
      simp [codeT, h0]
    · by_cases hlt : i < k
      · rw [if_pos hlt, if_pos (by omega)]
      · rw [if_neg hlt, if_neg (by omega)]

set_option maxHeartbeats 400000 in
theorem texts_any (b off n cap : Nat) (z : Nat → Int) (w : World) (hz : IntsAt w b off n z) (hn : n ≤ 9223372036854775807) :
    Calls Try.prog 14 #[.slice (some ⟨b, off, none⟩) n cap] w (TextsPost w z n) := by
  go_enter Try.func14, Try.ntmps14
  go_wp2_with fail
  refine (count_any b off n cap z _ hz hn).mono ?_
  rintro e w1 ⟨A, c, rfl, tA, hcA, hb1⟩
  have hnew := heap_alloc_last w1 (.cells A 52)
  have hi : (Try.prog.info? 52).map (·.size) = some A.size := by rw [tA.size]; exact Try.size52
  have hzs : zeros16.size = A.size := by rw [tA.size]; rfl
  have hall := tA.all
  cases hok : okB z n
  · go_wp2_with (refine wpList_store_new rfl 52 (.tmp 4) (.tmp 13) rfl A rfl rfl zeros16 hi hzs hall ?_)
    go_ret2
    exact Or.inl ⟨by simp [fitB, hok], rfl, hb1.alloc hb1.size _⟩
  · obtain rfl := hcA hok
    obtain ⟨hn288, hin⟩ := (okB_iff z n).1 hok
    have hc : ∀ i, cntN z n i ≤ 288 := fun i => Nat.le_trans (cntN_le z n i) hn288
    go_wp2_with (first | (refine wpList_store_new rfl 52 (.tmp 4) (.tmp 13) rfl A rfl rfl zeros16 hi hzs hall ?_) | (refine wpList_load_row_g rfl 52 (.tmp 4) rfl w1.heap.size rfl 52 A (0, 0) _ hnew Try.underlying52 rfl hi ?_) | fail)
    refine (fit_any A _ _ tA hc).mono ?_
    rintro e w2 ⟨rfl, hb2⟩
    have hnew2 : w2.heap[w1.heap.size]? = some (.cells A 52 (0, 0)) := (hb2.block w1.heap.size (by simp)).trans hnew
    have hbb2 : Below w.heap.size w w2 := (hb1.alloc hb1.size _).trans (hb2.mono (by simp; have := hb1.size; omega))
    have HO : Hid (okB z n = true) := hok
    clear hok hb2 hnew hzs hall
    by_cases hkr : kr (cntN z n) 15 = 32768
    · have HF : Hid (fitB z n = true) := by show fitB z n = true; simp only [fitB, Bool.and_eq_true, decide_eq_true_eq]; exact ⟨HO.out, hkr⟩
      go_wp2_with (first | (refine wpList_load_row_g rfl 52 (.tmp 4) rfl w1.heap.size rfl 52 A (0, 0) _ hnew2 Try.underlying52 rfl hi ?_) | fail)
      refine (firsts_any A _ _ tA hc).mono ?_
      rintro e w3 ⟨F, rfl, tF, hb3⟩
      have hiF : (Try.prog.info? 51).map (·.size) = some F.size := by rw [tF.size]; exact Try.size51
      have hzsF : zeros16.size = F.size := by rw [tF.size]; rfl
      have hallF := tF.all
      have hbb3 : Below w.heap.size w w3 := hbb2.trans (hb3.mono hbb2.size)
      have hmk := run_make_row' (P := Try.prog) 25 9 (.string .empty) 16 Try.underlying25 Try.info9 rfl .i64 .i64 n (by omega) (by omega)
      have RS := texts_start hbb3 tF
      clear hb3 hnew2 hi
      go_wp2_with (first | (refine wpList_store_new rfl 51 (.tmp 6) (.tmp 23) rfl F rfl rfl zeros16 hiF hzsF hallF ?_) | fail)
      go_loopw [29] (fun l wr => ∃ k : Nat, k ≤ n ∧ l = .int .i64 k ∧ TextsRel w wr z n w3.heap.size (w3.heap.size + 1) k) (fun l _ => n - (intOf l).toNat)
      case atStart => exact ⟨0, by omega, rfl, RS⟩
      case round =>
        obtain ⟨k, hk, rfl, hrel⟩ := hrel
        clear RS hmk hiF hzsF hallF
        by_cases hlt : k < n
        · have hc := (hz.later hrel.below).cell k hlt
          have hr := hin k hlt
          obtain ⟨m, hm⟩ := Int.eq_ofNat_of_zero_le hr.1
          rw [hm] at hc hr
          by_cases h0 : m = 0
          · subst h0
            have R := texts_pass hrel hm
            have HM : Hid (z k = 0) := hm
            clear hm
            go_wp2
            go_roundw
            case rel => exact ⟨k + 1, by omega, by go_num, R⟩
            case measure => simp [intOf]; omega
          · have h0' : ((m : Int) == 0) = false := by rw [beq_eq_false_iff_ne]; omega
            have hx := codeN_lt15 HF.out hlt (by rw [hm]; omega)
            simp only [codeN, hm, Int.toNat_natCast] at hx
            have HM : Hid (z k = (m : Int)) := hm
            clear hm
            have hcn := hrel.next.cell (i := m) (by omega)
            rw [if_neg h0] at hcn
            obtain ⟨q, hq⟩ : ∃ q, q = fi (cntN z n) m + cntN z k m := ⟨_, rfl⟩
            rw [← hq] at hcn hx
            have HQ : Hid (q = fi (cntN z n) m + cntN z k m) := hq
            clear hq
            go_wp2_with fail
            refine (text_any q m _ hx (by omega)).mono ?_
            rintro e w4 ⟨rfl, hb4⟩
            have R := texts_step hrel HM.out h0 hb4 HQ.out
            have n4 := hrel.next.of_block (hb4.block _ hrel.next.lt)
            have r4 := hrel.row.of_block (hb4.block _ hrel.row.lt)
            have k1 := r4.cell hlt
            have k2 := r4.frozen k
            have k3 : w4.cell? ⟨w3.heap.size, m, none⟩ = some (.int .i64 (q : Int)) := (hb4.cell (p := ⟨w3.heap.size, m, none⟩) hrel.next.lt).trans hcn
            have k4 := n4.frozen m
            clear hcn n4 r4 hc
            go_wp2
            go_roundw
            case rel => exact ⟨k + 1, by omega, by go_num, R⟩
            case measure => simp [intOf]; omega
        · obtain rfl : k = n := by omega
          go_wp2
          go_ret2
          exact Or.inr ⟨HF.out, w3.heap.size + 1, rfl, hrel.le, hrel.row.congr (fun i hi => by rw [if_pos hi]), hrel.below⟩
    · go_wp2
      go_ret2
      exact Or.inl ⟨by simp [fitB, hkr], rfl, hbb2⟩

end Go.Proofs.Ytkgnkidejcdofaa
