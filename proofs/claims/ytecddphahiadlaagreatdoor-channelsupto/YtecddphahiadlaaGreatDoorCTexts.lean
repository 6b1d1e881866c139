import Derived.Test.YtecddphahiadlaaGreatDoorCApp
import Derived.Deep.OwnRows
import Derived.Test.YtecddphahiadlaaGreatDoorCCount
import Derived.Laws.Rows
import Derived.Laws.Tables
import Derived.Deep.WholeRow
/- Contracts of the leaves: pick, begins. -/
namespace Go.Proofs.YtecddphahiadlaaGreatDoor
open Go.RowKit
/- The contract of the function that writes a code out. -/
structure TextRel (w wr : World) (x m k : Nat) : Prop where
 below : Below w.heap.size w wr
 row : wr.rowIs w.heap.size 5 m (fun i => if i < k then .int .u8 ((48 + bitAt x m i : Nat) : Int) else .int .u8 0)
theorem text_start (w : World) (x m : Nat) : TextRel w (w.alloc (.cells (madeCells #[.int .u8 0] m) 5)) x m 0 :=
 ⟨(Below.refl _ _).alloc (Nat.le_refl _) _, (World.rowIs_made w _ m 5).congr (fun j _ => by simp)⟩
theorem text_step {w wr : World} {x m k : Nat} (hx : x < 32768) (h : TextRel w wr x m k) :
 TextRel w (wr.setCell ⟨w.heap.size, k, none⟩ (.int .u8 ((48 + bits BinOp.and IntKind.i64 ((x : Int) / 2 ^ (m - 1 - k)) 1) % 256))) x m (k + 1) := by
 refine ⟨h.below.setCell (Nat.le_refl _) _, (h.row.set k _).congr (fun i _ => ?_)⟩
 rw [letter_eq x _ hx]
 by_cases e : i = k
 · subst e; simp [bitAt]
 ·
  rw [if_neg e]
  by_cases hlt : i < k
  · rw [if_pos hlt, if_pos (by omega)]
  · rw [if_neg hlt, if_neg (by omega)]
theorem text_end {w wr : World} {x m : Nat} (h : TextRel w wr x m m) : (convert 80 9 (.slice (some ⟨w.heap.size, 0, none⟩) m m)).run Tryz.prog wr = .ok (.string (bitsB x m)) wr := by
 have hl := bitsL_length x m
 have := run_convert_bytes_back (P := Tryz.prog) wr 80 9 5 ⟨w.heap.size, 0, none⟩ m (bitsL x m) Tryz.underlying80 Tryz.underlying5 Tryz.underlying9 (fun j hj => by
  have hj' : j < m := by omega
  have hc := h.row.cell hj'
  have hb := bitAt_lt x m j
  rw [addr_add0, hc, if_pos hj']
  simp only [bitsL, List.getElem_map, List.getElem_range, UInt8.toNat_ofNat']
  rw [Nat.mod_eq_of_lt (by omega)])
 rw [hl] at this
 exact this
set_option maxHeartbeats 400000 in
theorem text_any (x m : Nat) (w : World) (hx : x < 32768) (hm : m ≤ 15) :
 Calls Tryz.prog 98 #[.int .i64 x, .int .i64 m] w fun e w' => e = .returned (.string (bitsB x m)) ∧ Below w.heap.size w w' := by
 have hmk := run_make_row' (P := Tryz.prog) 80 5 (.int .u8 0) 1 Tryz.underlying80 Tryz.info5 rfl .i64 .i64 m (by omega) (by omega)
 go_enter Tryz.func98, Tryz.ntmps98
 go_wp2
 go_loopw [11] (fun i wr => ∃ k : Nat, k ≤ m ∧ i = .int .i64 k ∧ TextRel w wr x m k) (fun i _ => m - (intOf i).toNat)
 case atStart => exact ⟨0, by omega, rfl, text_start w x m⟩
 case round =>
  obtain ⟨k, hk, rfl, hrel⟩ := hrel
  by_cases hlt : k < m
  ·
   have hc := hrel.row.cell hlt
   have hf := hrel.row.frozen k
   have R := text_step hx hrel
   go_wp2
   go_roundw
   case rel => exact ⟨k + 1, by omega, by go_num, R⟩
   case measure => simp [intOf]; omega
  ·
   obtain rfl : k = m := by omega
   have hcv := text_end hrel
   go_wp2
   go_ret
   exact ⟨rfl, hrel.below⟩
/- The contract of firsts. -/
structure FirstRel (w wr : World) (c : Nat → Nat) (n : Nat) : Prop where
 below : Below w.heap.size w wr
 cnt : wr.rowIs w.heap.size 156 16 (fun i => .int .i64 (c i))
 res : wr.rowIs (w.heap.size + 1) 155 16 (fun _ => .int .i64 0)
 first : wr.rowIs (w.heap.size + 1 + 1) 155 16 (fun i => .int .i64 (if i ≤ n then fi c i else 0 : Nat))
theorem first_start (w : World) (A : Array Value) (c : Nat → Nat) (hA : IsTal A c) :
 FirstRel w (((w.alloc (.cells A 156)).alloc (.cells zeros16 155)).alloc (.cells zeros16 155)) c 1 := by
 have e1 : (w.alloc (.cells A 156)).heap.size = w.heap.size + 1 := by simp
 have e2 : ((w.alloc (.cells A 156)).alloc (.cells zeros16 155)).heap.size = w.heap.size + 1 + 1 := by simp
 refine ⟨(((Below.refl _ _).alloc (Nat.le_refl _) _).alloc (by simp) _).alloc (by simp; omega) _, ((hA.rowIs w 156).alloc _).alloc _, ?_, ?_⟩
 ·
  have := (zeros16_tal.rowIs (w.alloc (.cells A 156)) 155).alloc (.cells zeros16 155)
  rwa [e1] at this
 ·
  have := zeros16_tal.rowIs ((w.alloc (.cells A 156)).alloc (.cells zeros16 155)) 155
  rw [e2] at this
  refine this.congr (fun i _ => ?_)
  match i with
  | 0 => simp [fi]
  | 1 => simp [fi]
  | i + 2 => simp
theorem first_step {w wr : World} {c : Nat → Nat} {n : Nat} (hc : ∀ i, c i ≤ 288) (hn : n < 14) (h : FirstRel w wr c (n + 1)) :
 FirstRel w (wr.setCell ⟨w.heap.size + 1 + 1, n + 2, none⟩ (.int .i64 (wrap64 (wrap64 ((fi c (n + 1) : Int) + (c (n + 1) : Int)) * 2)))).drew c (n + 2) := by
 rw [fi_wrap c hc n hn]
 refine ⟨(h.below.setCell (by show w.heap.size ≤ w.heap.size + 1 + 1; omega) _).drew, (h.cnt.setOther (by show w.heap.size ≠ w.heap.size + 1 + 1; omega) _).drew,
  (h.res.setOther (by show w.heap.size + 1 ≠ w.heap.size + 1 + 1; omega) _).drew, ((h.first.set (n + 2) _).congr (fun i _ => ?_)).drew⟩
 by_cases e : i = n + 2
 · subst e; simp
 ·
  rw [if_neg e]
  by_cases hle : i ≤ n + 1
  · rw [if_pos hle, if_pos (by omega)]
  · rw [if_neg hle, if_neg (by omega)]
theorem Tryz.size155 : (Tryz.prog.info? 155).map (·.size) = some 16 := by kernel_rfl
set_option maxHeartbeats 400000 in
theorem firsts_any (A : Array Value) (c : Nat → Nat) (w : World) (hA : IsTal A c) (hc : ∀ i, c i ≤ 288) :
 Calls Tryz.prog 97 #[.agg A] w fun e w' => ∃ F, e = .returned (.agg F) ∧ IsTal F (fi c) ∧ Below w.heap.size w w' := by
 go_enter Tryz.func97, Tryz.ntmps97
 go_wp2
 go_loopw [4] (fun l wr => ∃ n : Nat, n ≤ 14 ∧ l = .int .i64 (n + 2 : Nat) ∧ FirstRel w wr c (n + 1)) (fun l _ => 17 - (intOf l).toNat)
 case atStart => exact ⟨0, by omega, rfl, first_start w A c hA⟩
 case round =>
  obtain ⟨n, hn, rfl, hrel⟩ := hrel
  by_cases hlt : n < 14
  ·
   have c1 := hrel.cnt.cell (i := n + 1) (by omega)
   have c2 := hrel.first.cell (i := n + 1) (by omega)
   have c3 := hrel.first.cell (i := n + 2) (by omega)
   have f3 := hrel.first.frozen (n + 2)
   have R := first_step hc hlt hrel
   go_wp2
   go_region
   all_goals go_wp2
   all_goals go_roundw
   case rel => exact ⟨n + 1, by omega, by go_num, R⟩
   case measure => simp [intOf]; omega
  ·
   obtain rfl : n = 14 := by omega
   obtain ⟨F, hF, tF⟩ := rowIs_tal (hrel.first.congr (g := fun i => .int .i64 (fi c i : Nat)) (fun i hi => by rw [if_pos (by omega)]))
   obtain ⟨Z, hZ, hZs, _⟩ := hrel.res
   have hi : (Tryz.prog.info? 155).map (·.size) = some F.size := by rw [tF.size]; exact Tryz.size155
   have hzs : Z.size = F.size := by rw [hZs, tF.size]
   have hall := tF.all
   have hne := setRow_heap wr (w.heap.size + 1) Z F 155 (0, 0) hZ
   have hbel := Below.setRow hrel.below (g := w.heap.size + 1) (by omega) F
   go_wp2_with (first | (refine wpList_load_row rfl 155 (.tmp 3) rfl (w.heap.size + 1 + 1) rfl 155 F (0, 0) _ hF Tryz.underlying155 rfl hi ?_) | (refine wpList_store_row rfl 155 (.tmp 2) (.tmp 21) rfl (w.heap.size + 1) F rfl rfl 155 Z hZ hi hzs hall ?_))
   exact bodyPost_ret (v := .agg F) (results_cell_row Tryz.results97 _ _ (w.heap.size + 1) 155 F (0, 0) _ rfl hne Tryz.underlying155 rfl hi) rfl ⟨F, rfl, tF, hbel⟩
/- The contract of Texts. -/
structure TextsRel (w wr : World) (z : Nat → Int) (n g6 g k : Nat) : Prop where
 below : Below w.heap.size w wr
 le6 : w.heap.size ≤ g6
 le : w.heap.size ≤ g
 ne : g6 ≠ g
 next : wr.rowIs g6 155 16 (fun l => .int .i64 (fi (cntN z n) l + (if l = 0 then 0 else cntN z k l) : Nat))
 row : wr.rowIs g 9 n (fun i => .string (if i < k then codeT z n i else .empty))
/-- What Texts answers. -/
def TextsPost (w : World) (z : Nat → Int) (n : Nat) (e : Ending) (w' : World) : Prop :=
 (fitB z n = false ∧ e = .returned (.tuple #[.slice none 0 0, .bool false]) ∧ Below w.heap.size w w') ∨
 (fitB z n = true ∧ ∃ g, e = .returned (.tuple #[.slice (some ⟨g, 0, none⟩) n n, .bool true]) ∧ w.heap.size ≤ g ∧ w'.rowIs g 9 n (fun i => .string (codeT z n i)) ∧ Below w.heap.size w w')
theorem texts_start {w w3 : World} {z : Nat → Int} {n : Nat} {F : Array Value} (hb : Below w.heap.size w w3) (tF : IsTal F (fi (cntN z n))) :
 TextsRel w ((w3.alloc (.cells F 155)).alloc (.cells (madeCells #[.string .empty] n) 9)) z n w3.heap.size (w3.heap.size + 1) 0 := by
 have h1 := hb.size
 have e1 : (w3.alloc (.cells F 155)).heap.size = w3.heap.size + 1 := by simp
 refine ⟨(hb.alloc h1 _).alloc (by simp; omega) _, h1, by omega, by omega, ((tF.rowIs w3 155).alloc _).congr (fun i _ => ?_), ?_⟩
 · simp [cntN]
 ·
  have := World.rowIs_made (w3.alloc (.cells F 155)) (.string .empty) n 9
  rw [e1] at this
  exact this.congr (fun i _ => by simp)
theorem texts_step {w wr w4 : World} {z : Nat → Int} {n g6 g k m q : Nat} (h : TextsRel w wr z n g6 g k) (hm : z k = (m : Int)) (h0 : m ≠ 0)
 (hb : Below wr.heap.size wr w4) (hq : q = fi (cntN z n) m + cntN z k m) :
 TextsRel w ((w4.setCell ⟨g, k, none⟩ (.string (bitsB q m))).setCell ⟨g6, m, none⟩ (.int .i64 ((q : Int) + 1))) z n g6 g (k + 1) := by
 subst hq
 have hl6 := h.next.lt
 have hl := h.row.lt
 have hne := h.ne
 have b4 : Below w.heap.size w w4 := h.below.trans (hb.mono h.below.size)
 have n4 := h.next.of_block (hb.block g6 hl6)
 have r4 := h.row.of_block (hb.block g hl)
 refine ⟨(b4.setCell h.le _).setCell h.le6 _, h.le6, h.le, h.ne, ((n4.setOther h.ne _).set m _).congr (fun i _ => ?_), ((r4.set k _).setOther (fun e => h.ne e.symm) _).congr (fun i _ => ?_)⟩
 ·
  by_cases e : i = m
  ·
   subst e
   have e1 : cntN z (k + 1) i = cntN z k i + 1 := by simp [cntN, hm]
   rw [if_pos rfl, if_neg h0, e1]
   simp only [Value.int.injEq, true_and]
   omega
  ·
   have e1 : cntN z (k + 1) i = cntN z k i := by
    simp only [cntN]
    rw [if_neg (fun h' => e (by rw [hm] at h'; omega)), Nat.add_zero]
   rw [if_neg e, e1]
 ·
  by_cases e : i = k
  ·
   subst e
   rw [if_pos rfl, if_pos (by omega)]
   have hz0 : ¬ ((m : Int) = 0) := by omega
   simp only [codeT, codeN, hm]
   rw [if_neg hz0, Int.toNat_natCast]
  ·
   rw [if_neg e]
   by_cases hlt : i < k
   · rw [if_pos hlt, if_pos (by omega)]
   · rw [if_neg hlt, if_neg (by omega)]
theorem texts_pass {w wr : World} {z : Nat → Int} {n g6 g k : Nat} (h : TextsRel w wr z n g6 g k) (h0 : z k = 0) : TextsRel w wr z n g6 g (k + 1) := by
 refine ⟨h.below, h.le6, h.le, h.ne, h.next.congr (fun i _ => ?_), h.row.congr (fun i _ => ?_)⟩
 ·
  simp only [cntN]
  by_cases e : i = 0
  · rw [if_pos e, if_pos e]
  · rw [if_neg e, if_neg e, if_neg (by rw [h0]; omega), Nat.add_zero]
 ·
  by_cases e : i = k
  ·
   subst e
   rw [if_neg (by omega), if_pos (by omega)]
   simp [codeT, h0]
  ·
   by_cases hlt : i < k
   · rw [if_pos hlt, if_pos (by omega)]
   · rw [if_neg hlt, if_neg (by omega)]
set_option maxRecDepth 4000 in
set_option maxHeartbeats 400000 in
theorem texts_any (b off n cap : Nat) (z : Nat → Int) (w : World) (hz : IntsAt w b off n z) (hn : n ≤ 9223372036854775807) :
 Calls Tryz.prog 72 #[.slice (some ⟨b, off, none⟩) n cap] w (TextsPost w z n) := by
 go_enter Tryz.func72, Tryz.ntmps72
 go_wp2_with fail
 refine (count_any b off n cap z _ hz hn).mono ?_
 rintro e w1 ⟨A, c, rfl, tA, hcA, hb1⟩
 have hnew := heap_alloc_last w1 (.cells A 156)
 have hi : (Tryz.prog.info? 156).map (·.size) = some A.size := by rw [tA.size]; exact Tryz.size156
 have hzs : zeros16.size = A.size := by rw [tA.size]; rfl
 have hall := tA.all
 cases hok : okB z n
 ·
  go_wp2_with (refine wpList_store_new rfl 156 (.tmp 4) (.tmp 13) rfl A rfl rfl zeros16 hi hzs hall ?_)
  go_ret2
  exact Or.inl ⟨by simp [fitB, hok], rfl, hb1.alloc hb1.size _⟩
 ·
  obtain rfl := hcA hok
  obtain ⟨hn288, hin⟩ := (okB_iff z n).1 hok
  have hc : ∀ i, cntN z n i ≤ 288 := fun i => Nat.le_trans (cntN_le z n i) hn288
  go_wp2_with (first | (refine wpList_store_new rfl 156 (.tmp 4) (.tmp 13) rfl A rfl rfl zeros16 hi hzs hall ?_) | (refine wpList_load_row_g rfl 156 (.tmp 4) rfl w1.heap.size rfl 156 A (0, 0) _ hnew Tryz.underlying156 rfl hi ?_) | fail)
  refine (fit_any A _ _ tA hc).mono ?_
  rintro e w2 ⟨rfl, hb2⟩
  have hnew2 : w2.heap[w1.heap.size]? = some (.cells A 156 (0, 0)) := (hb2.block w1.heap.size (by simp)).trans hnew
  have hbb2 : Below w.heap.size w w2 := (hb1.alloc hb1.size _).trans (hb2.mono (by simp; have := hb1.size; omega))
  have HO : Hid (okB z n = true) := hok
  clear hok hb2 hnew hzs hall
  by_cases hkr : kr (cntN z n) 15 = 32768
  ·
   have HF : Hid (fitB z n = true) := by show fitB z n = true; simp only [fitB, Bool.and_eq_true, decide_eq_true_eq]; exact ⟨HO.out, hkr⟩
   go_wp2_with (first | (refine wpList_load_row_g rfl 156 (.tmp 4) rfl w1.heap.size rfl 156 A (0, 0) _ hnew2 Tryz.underlying156 rfl hi ?_) | fail)
   refine (firsts_any A _ _ tA hc).mono ?_
   rintro e w3 ⟨F, rfl, tF, hb3⟩
   have hiF : (Tryz.prog.info? 155).map (·.size) = some F.size := by rw [tF.size]; exact Tryz.size155
   have hzsF : zeros16.size = F.size := by rw [tF.size]; rfl
   have hallF := tF.all
   have hbb3 : Below w.heap.size w w3 := hbb2.trans (hb3.mono hbb2.size)
   have hmk := run_make_row' (P := Tryz.prog) 56 9 (.string .empty) 16 Tryz.underlying56 Tryz.info9 rfl .i64 .i64 n (by omega) (by omega)
   have RS := texts_start hbb3 tF
   clear hb3 hnew2 hi
   go_wp2_with (first | (refine wpList_store_new rfl 155 (.tmp 6) (.tmp 23) rfl F rfl rfl zeros16 hiF hzsF hallF ?_) | fail)
   go_loopw [29] (fun l wr => ∃ k : Nat, k ≤ n ∧ l = .int .i64 k ∧ TextsRel w wr z n w3.heap.size (w3.heap.size + 1) k) (fun l _ => n - (intOf l).toNat)
   case atStart => exact ⟨0, by omega, rfl, RS⟩
   case round =>
    obtain ⟨k, hk, rfl, hrel⟩ := hrel
    clear RS hmk hiF hzsF hallF
    by_cases hlt : k < n
    ·
     have hc := (hz.later hrel.below).cell k hlt
     have hr := hin k hlt
     obtain ⟨m, hm⟩ := Int.eq_ofNat_of_zero_le hr.1
     rw [hm] at hc hr
     by_cases h0 : m = 0
     ·
      subst h0
      have R := texts_pass hrel hm
      have HM : Hid (z k = 0) := hm
      clear hm
      go_wp2
      go_roundw
      case rel => exact ⟨k + 1, by omega, by go_num, R⟩
      case measure => simp [intOf]; omega
     ·
      have h0' : ((m : Int) == 0) = false := by rw [beq_eq_false_iff_ne]; omega
      have hx := codeN_lt15 HF.out hlt (by rw [hm]; omega)
      simp only [codeN, hm, Int.toNat_natCast] at hx
      have HM : Hid (z k = (m : Int)) := hm
      clear hm
      have hcn := hrel.next.cell (i := m) (by omega)
      rw [if_neg h0] at hcn
      obtain ⟨q, hq⟩ : ∃ q, q = fi (cntN z n) m + cntN z k m := ⟨_, rfl⟩
      rw [← hq] at hcn hx
      have HQ : Hid (q = fi (cntN z n) m + cntN z k m) := hq
      clear hq
      go_wp2_with fail
      refine (text_any q m _ hx (by omega)).mono ?_
      rintro e w4 ⟨rfl, hb4⟩
      have R := texts_step hrel HM.out h0 hb4 HQ.out
      have n4 := hrel.next.of_block (hb4.block _ hrel.next.lt)
      have r4 := hrel.row.of_block (hb4.block _ hrel.row.lt)
      have k1 := r4.cell hlt
      have k2 := r4.frozen k
      have k3 : w4.cell? ⟨w3.heap.size, m, none⟩ = some (.int .i64 (q : Int)) := (hb4.cell (p := ⟨w3.heap.size, m, none⟩) hrel.next.lt).trans hcn
      have k4 := n4.frozen m
      clear hcn n4 r4 hc
      go_wp2
      go_roundw
      case rel => exact ⟨k + 1, by omega, by go_num, R⟩
      case measure => simp [intOf]; omega
    ·
     obtain rfl : k = n := by omega
     go_wp2
     go_ret2
     exact Or.inr ⟨HF.out, w3.heap.size + 1, rfl, hrel.le, hrel.row.congr (fun i hi => by rw [if_pos hi]), hrel.below⟩
  ·
   go_wp2
   go_ret2
   exact Or.inl ⟨by simp [fitB, hkr], rfl, hbb2⟩
end Go.Proofs.YtecddphahiadlaaGreatDoor
