import Derived.Test.YtecddphahiadlaaGreatDoorCApp
import Derived.Deep.OwnRows
import Derived.Laws.Rows
import Derived.Laws.Tables
import Derived.Laws.ResultCell
/- Rows of sixteen numbers. -/
namespace Go.Proofs.YtecddphahiadlaaGreatDoor
open Go.RowKit
def zeros16 : Array Value := #[.int .i64 0, .int .i64 0, .int .i64 0, .int .i64 0, .int .i64 0, .int .i64 0, .int .i64 0, .int .i64 0, .int .i64 0, .int .i64 0, .int .i64 0, .int .i64 0, .int .i64 0, .int .i64 0, .int .i64 0, .int .i64 0]
theorem zeros16_at : ∀ i, i < 16 → zeros16[i]? = some (.int .i64 0)
 | 0, _ => rfl
 | 1, _ => rfl
 | 2, _ => rfl
 | 3, _ => rfl
 | 4, _ => rfl
 | 5, _ => rfl
 | 6, _ => rfl
 | 7, _ => rfl
 | 8, _ => rfl
 | 9, _ => rfl
 | 10, _ => rfl
 | 11, _ => rfl
 | 12, _ => rfl
 | 13, _ => rfl
 | 14, _ => rfl
 | 15, _ => rfl
 | n + 16, h => absurd h (by omega)
theorem zeros16_tal : IsTal zeros16 (fun _ => 0) := ⟨rfl, zeros16_at⟩
theorem IsTal.rowIs {A : Array Value} {c : Nat → Nat} (h : IsTal A c) (w : World) (t : TypeId) : (w.alloc (.cells A t)).rowIs w.heap.size t 16 (fun i => .int .i64 (c i)) := by
 have := World.rowIs_alloc w A t (fun i => .int .i64 (c i)) (fun i hi => h.at' i (by have := h.size; omega))
 rwa [h.size] at this
theorem IsTal.all {A : Array Value} {c : Nat → Nat} (h : IsTal A c) : A.all (·.oneCell') = true := by
 rw [Array.all_eq_true]
 intro i hi
 have := h.at' i (by have := h.size; omega)
 rw [Array.getElem?_eq_getElem hi] at this
 rw [Option.some.inj this]
 rfl
/-- The cells of a row of sixteen numbers. -/
theorem rowIs_tal {w : World} {b : Nat} {t : TypeId} {c : Nat → Nat} (h : w.rowIs b t 16 (fun i => .int .i64 (c i))) : ∃ A, w.heap[b]? = some (.cells A t (0, 0)) ∧ IsTal A c := by
 obtain ⟨A, hb, hs, ha⟩ := h
 exact ⟨A, hb, hs, ha⟩
theorem Below.setRow {B : Nat} {a w : World} (h : Below B a w) {g : Nat} (hg : B ≤ g) (cs : Array Value) : Below B a (w.setRow g cs) :=
 h.trans ⟨rfl, rfl, rfl, by simp, fun k hk => setRow_other w g k cs (by omega)⟩
/- The contract of fit. -/
set_option maxHeartbeats 400000 in
theorem fit_any (A : Array Value) (c : Nat → Nat) (w : World) (hA : IsTal A c) (hc : ∀ i, c i ≤ 288) :
 Calls Tryz.prog 96 #[.agg A] w fun e w' => e = .returned (.bool (decide (kr c 15 = 32768))) ∧ Below w.heap.size w w' := by
 have hrow := World.rowIs_alloc w A 156 (fun i => .int .i64 (c i)) (fun i hi => hA.at' i (by have := hA.size; omega))
 rw [hA.size] at hrow
 go_enter Tryz.func96, Tryz.ntmps96
 go_wp2
 go_loop [3, 4] (fun s l => ∃ n : Nat, n ≤ 15 ∧ l = .int .i64 (n + 1 : Nat) ∧ s = .int .i64 (kr c n)) (fun _ l => 16 - (intOf l).toNat)
 case atStart => exact ⟨0, by omega, rfl, rfl⟩
 case round =>
  obtain ⟨n, hn, rfl, rfl⟩ := hrel
  by_cases hlt : n < 15
  ·
   have hcell := hrow.cell (i := n + 1) (by omega)
   have hkr := kr_le c hc n
   have hcn := hc (n + 1)
   have HK : Hid (wrap64 ((kr c n : Int) + wrap64 ((c (n + 1) : Int) * 2 ^ (14 - n))) = (kr c (n + 1) : Int)) := kr_wrap c hc n hlt
   go_wp2
   go_round
   case rel => exact ⟨n + 1, by omega, by go_num, by rw [HK.out]⟩
   case measure => simp [intOf]; omega
  ·
   obtain rfl : n = 15 := by omega
   go_wp2
   go_ret
   exact ⟨ret_bool (by rw [Bool.eq_iff_iff, beq_iff_eq, decide_eq_true_iff]; omega), (Below.refl _ _).alloc (Nat.le_refl _) _⟩
/- The contract of count. -/
structure CountRel (w wr : World) (z : Nat → Int) (k : Nat) : Prop where
 below : Below w.heap.size w wr
 inr : ∀ i, i < k → 0 ≤ z i ∧ z i ≤ 15
 res : wr.rowIs w.heap.size 156 16 (fun _ => .int .i64 0)
 cnt : wr.rowIs (w.heap.size + 1) 156 16 (fun i => .int .i64 (cntN z k i : Nat))
theorem count_start (w : World) (z : Nat → Int) : CountRel w ((w.alloc (.cells zeros16 156)).alloc (.cells zeros16 156)) z 0 := by
 have e1 : (w.alloc (.cells zeros16 156)).heap.size = w.heap.size + 1 := by simp
 refine ⟨((Below.refl _ _).alloc (Nat.le_refl _) _).alloc (by simp) _, fun i hi => absurd hi (by omega), (zeros16_tal.rowIs w 156).alloc _, ?_⟩
 have := zeros16_tal.rowIs (w.alloc (.cells zeros16 156)) 156
 rw [e1] at this
 exact this.congr (fun i _ => by simp [cntN])
theorem count_step {w wr : World} {z : Nat → Int} {k : Nat} (h : CountRel w wr z k) (h0 : 0 ≤ z k) (h1 : z k ≤ 15) :
 CountRel w (wr.setCell ⟨w.heap.size + 1, (z k).toNat, none⟩ (.int .i64 ((cntN z k (z k).toNat : Int) + 1))) z (k + 1) := by
 refine ⟨h.below.setCell (by show w.heap.size ≤ w.heap.size + 1; omega) _, fun i hi => ?_, h.res.setOther (by show w.heap.size ≠ w.heap.size + 1; omega) _, (h.cnt.set _ _).congr (fun i _ => ?_)⟩
 ·
  by_cases e : i = k
  · subst e; exact ⟨h0, h1⟩
  · exact h.inr i (by omega)
 ·
  by_cases e : i = (z k).toNat
  ·
   subst e
   rw [if_pos rfl]
   simp only [cntN]
   rw [if_pos (by omega)]
   simp
  ·
   rw [if_neg e]
   simp only [cntN]
   rw [if_neg (by omega)]
   simp
theorem Tryz.size156 : (Tryz.prog.info? 156).map (·.size) = some 16 := by kernel_rfl
theorem res_cell_tmp {P : Program} {fn : Func} {p u : Tmp} {ty : TypeId} (h : fn.results = #[.cell p ty, .tmp u]) (tmps : Array Value) (w : World) (g : Nat) (t : TypeId) (cs : Array Value) (fr : Nat × Nat) (d : TypeDesc) (v : Value)
 (hp : tmps.getD p undef = .pointer (some ⟨g, 0, none⟩)) (hv : tmps.getD u undef = v) (hg : w.heap[g]? = some (.cells cs t fr))
 (hu : P.underlying ty = some d) (hd : (match d with | .struct _ | .array _ _ => true | _ => false) = true) (hi : (P.info? ty).map (·.size) = some cs.size) :
 (results fn tmps).run P w = .ok (.tuple #[.agg cs, v]) w := by
 rw [results_cell_tmp h tmps P w, hp, hv]
 simp [asAddr, Result.andThen, run_loadVar_row w g t ty cs fr d hg hu hd hi]
/-- What count answers. -/
def CountPost (w : World) (z : Nat → Int) (n : Nat) (e : Ending) (w' : World) : Prop :=
 ∃ A c, e = .returned (.tuple #[.agg A, .bool (okB z n)]) ∧ IsTal A c ∧ (okB z n = true → c = cntN z n) ∧ Below w.heap.size w w'
theorem count_bad {w wr : World} {z : Nat → Int} {n : Nat} {Z : Array Value} (hb : Below w.heap.size w wr) (h : okB z n = false) :
 CountPost w z n (.returned (.tuple #[.agg zeros16, .bool false])) (wr.setRow w.heap.size Z) := by
 refine ⟨zeros16, _, ?_, zeros16_tal, ?_, Below.setRow hb (Nat.le_refl _) _⟩
 · rw [h]
 · rw [h]; intro h'; exact absurd h' (by simp)
set_option maxHeartbeats 400000 in
theorem count_any (b off n cap : Nat) (z : Nat → Int) (w : World) (hz : IntsAt w b off n z) (hn : n ≤ 9223372036854775807) :
 Calls Tryz.prog 95 #[.slice (some ⟨b, off, none⟩) n cap] w (CountPost w z n) := by
 by_cases hm : n ≤ 288
 ·
  go_enter Tryz.func95, Tryz.ntmps95
  go_wp2
  go_loopw [13] (fun l wr => ∃ k : Nat, k ≤ n ∧ l = .int .i64 k ∧ CountRel w wr z k) (fun l _ => n - (intOf l).toNat)
  case atStart => exact ⟨0, by omega, rfl, count_start w z⟩
  case round =>
   obtain ⟨k, hk, rfl, hrel⟩ := hrel
   obtain ⟨Z, hZ, hZs, _⟩ := hrel.res
   by_cases hlt : k < n
   ·
    have hc := (hz.later hrel.below).cell k hlt
    by_cases h0 : z k < 0
    ·
     have hne := setRow_heap wr w.heap.size Z zeros16 156 (0, 0) hZ
     have HB : Hid (okB z n = false) := okB_out hlt (Or.inl h0)
     go_wp2_with (refine wpList_store_row rfl 156 (.tmp 2) (.tmp 23) rfl w.heap.size zeros16 rfl rfl 156 Z hZ Tryz.size156 hZs zeros16_tal.all ?_)
     exact bodyPost_ret (v := .tuple #[.agg zeros16, .bool false]) (res_cell_tmp Tryz.results95 _ _ w.heap.size 156 zeros16 (0, 0) _ (.bool false) rfl rfl hne Tryz.underlying156 rfl Tryz.size156) rfl (count_bad hrel.below HB.out)
    ·
     by_cases h1 : 15 < z k
     ·
      have hne := setRow_heap wr w.heap.size Z zeros16 156 (0, 0) hZ
      have HB : Hid (okB z n = false) := okB_out hlt (Or.inr h1)
      go_wp2_with (refine wpList_store_row rfl 156 (.tmp 2) (.tmp 23) rfl w.heap.size zeros16 rfl rfl 156 Z hZ Tryz.size156 hZs zeros16_tal.all ?_)
      exact bodyPost_ret (v := .tuple #[.agg zeros16, .bool false]) (res_cell_tmp Tryz.results95 _ _ w.heap.size 156 zeros16 (0, 0) _ (.bool false) rfl rfl hne Tryz.underlying156 rfl Tryz.size156) rfl (count_bad hrel.below HB.out)
     ·
      have hcc := hrel.cnt.cell (i := (z k).toNat) (by omega)
      have hcf := hrel.cnt.frozen (z k).toNat
      have hcl := cntN_le z k (z k).toNat
      have R := count_step hrel (by omega) (by omega)
      clear hZ hZs
      go_wp2
      go_roundw
      case rel => exact ⟨k + 1, by omega, by go_num, R⟩
      case measure => simp [intOf]; omega
   ·
    obtain rfl : k = n := by omega
    obtain ⟨F, hF, tF⟩ := rowIs_tal hrel.cnt
    have hi : (Tryz.prog.info? 156).map (·.size) = some F.size := by rw [tF.size]; exact Tryz.size156
    have hzs : Z.size = F.size := by rw [hZs, tF.size]
    have hall := tF.all
    have hne := setRow_heap wr w.heap.size Z F 156 (0, 0) hZ
    have HB : Hid (okB z k = true) := okB_yes hm hrel.inr
    go_wp2_with (first | (refine wpList_load_row rfl 156 (.tmp 4) rfl (w.heap.size + 1) rfl 156 F (0, 0) _ hF Tryz.underlying156 rfl hi ?_) | (refine wpList_store_row rfl 156 (.tmp 2) (.tmp 30) rfl w.heap.size F rfl rfl 156 Z hZ hi hzs hall ?_))
    refine bodyPost_ret (v := .tuple #[.agg F, .bool true]) (res_cell_tmp Tryz.results95 _ _ w.heap.size 156 F (0, 0) _ (.bool true) rfl rfl hne Tryz.underlying156 rfl hi) rfl ⟨F, _, ?_, tF, fun _ => rfl, Below.setRow hrel.below (Nat.le_refl _) _⟩
    rw [HB.out]
 ·
  have HB : Hid (okB z n = false) := okB_many (by omega)
  have hne0 := count_start w z
  obtain ⟨Z, hZ, hZs, _⟩ := hne0.res
  have hne := setRow_heap ((w.alloc (.cells zeros16 156)).alloc (.cells zeros16 156)) w.heap.size Z zeros16 156 (0, 0) hZ
  go_enter Tryz.func95, Tryz.ntmps95
  go_wp2_with (refine wpList_store_row rfl 156 (.tmp 2) (.tmp 10) rfl w.heap.size zeros16 rfl rfl 156 Z hZ Tryz.size156 hZs zeros16_tal.all ?_)
  exact bodyPost_ret (v := .tuple #[.agg zeros16, .bool false]) (res_cell_tmp Tryz.results95 _ _ w.heap.size 156 zeros16 (0, 0) _ (.bool false) rfl rfl hne Tryz.underlying156 rfl Tryz.size156) rfl (count_bad hne0.below HB.out)
end Go.Proofs.YtecddphahiadlaaGreatDoor
