import Derived.Test.YtecddphahiadlaaGreatDoorCClone
import Derived.Deep.WholeRow
import Derived.Deep.RegionWith
import Derived.Deep.CutBlock
import Derived.Deep.DeepCutAuto
/- The program's few and arrange. -/
namespace Go.Proofs.YtecddphahiadlaaGreatDoor
open Go.RowKit
theorem few_no {c : Nat → Nat} {l : Nat} (h15 : l < 14) (h : 0 < c (l + 2)) : fewB c = false := by
 rw [Bool.eq_false_iff]
 intro h1
 have := ((fewB_iff c).1 h1).1 l h15
 omega
theorem few_end {c : Nat → Nat} (h : ∀ l, l < 14 → c (l + 2) = 0) : fewB c = decide (c 1 ≤ 1) := by
 rw [Bool.eq_iff_iff, fewB_iff, decide_eq_true_iff]
 exact ⟨fun x => x.2, fun x => ⟨h, x⟩⟩
set_option maxHeartbeats 400000 in
theorem few_any (A : Array Value) (c : Nat → Nat) (w : World) (hA : IsTal A c) :
 Calls Tryz.prog 153 #[.agg A] w fun e w' => e = .returned (.bool (fewB c)) ∧ Below w.heap.size w w' := by
 have hrow := hA.rowIs w 156
 go_enter Tryz.func153, Tryz.ntmps153
 go_wp2
 go_loop [3] (fun l => ∃ n : Nat, n ≤ 14 ∧ l = .int .i64 (n + 2 : Nat) ∧ ∀ l, 2 ≤ l → l < n + 2 → c l = 0) (fun l => 17 - (intOf l).toNat)
 case atStart => exact ⟨0, by omega, rfl, fun l h1 h2 => by omega⟩
 case round =>
  obtain ⟨n, hn, rfl, hrel⟩ := hrel
  by_cases hlt : n < 14
  ·
   have hcell := hrow.cell (i := n + 2) (by omega)
   by_cases h0 : 0 < c (n + 2)
   ·
    have HF : Hid (fewB c = false) := few_no (l := n) hlt h0
    go_wp2
    go_ret
    exact ⟨by rw [HF.out]; rfl, (Below.refl _ _).alloc (Nat.le_refl _) _⟩
   ·
    have HR : Hid (∀ l, 2 ≤ l → l < n + 1 + 2 → c l = 0) := by
     show ∀ l, 2 ≤ l → l < n + 1 + 2 → c l = 0
     intro l h1 h2
     by_cases e : l = n + 2
     · subst e; omega
     · exact hrel l h1 (by omega)
    clear hrel
    go_wp2
    go_round
    case rel => exact ⟨n + 1, by omega, by go_num, HR.out⟩
    case measure => simp [intOf]; omega
  ·
   obtain rfl : n = 14 := by omega
   have HF : Hid (fewB c = decide (c 1 ≤ 1)) := few_end (fun l h1 => hrel (l + 2) (by omega) (by omega))
   have hcell := hrow.cell (i := 1) (by omega)
   clear hrel
   go_wp2
   go_ret
   exact ⟨ret_bool (by rw [HF.out]; first | rfl | (rw [decide_eq_decide]; omega)), (Below.refl _ _).alloc (Nat.le_refl _) _⟩
structure ArrA (w wr : World) (c : Nat → Nat) (n : Nat) : Prop where
 below : Below w.heap.size w wr
 cnt : wr.rowIs w.heap.size 156 16 (fun i => .int .i64 (c i))
 next : wr.rowIs (w.heap.size + 1) 156 16 (fun i => .int .i64 (if i ≤ n then pas c (i - 1) else 0 : Nat))
theorem arr_start (w : World) (A : Array Value) (c : Nat → Nat) (hA : IsTal A c) : ArrA w ((w.alloc (.cells A 156)).alloc (.cells zeros16 156)) c 1 := by
 have e1 : (w.alloc (.cells A 156)).heap.size = w.heap.size + 1 := by simp
 refine ⟨((Below.refl _ _).alloc (Nat.le_refl _) _).alloc (by simp) _, (hA.rowIs w 156).alloc _, ?_⟩
 have := zeros16_tal.rowIs (w.alloc (.cells A 156)) 156
 rw [e1] at this
 refine this.congr (fun i _ => ?_)
 match i with
 | 0 => simp [pas]
 | 1 => simp [pas]
 | i + 2 => simp
theorem pas_wrap (c : Nat → Nat) (hc : ∀ i, c i ≤ 288) : ∀ n, pas c n ≤ 288 * n
 | 0 => by simp [pas]
 | n + 1 => by have := pas_wrap c hc n; have := hc (n + 1); rw [pas_succ]; omega
theorem arr_step {w wr : World} {c : Nat → Nat} {n : Nat} (h : ArrA w wr c (n + 1)) :
 ArrA w (wr.setCell ⟨w.heap.size + 1, n + 2, none⟩ (.int .i64 ((pas c n : Int) + (c (n + 1) : Int)))).drew c (n + 2) := by
 refine ⟨(h.below.setCell (by show w.heap.size ≤ w.heap.size + 1; omega) _).drew, (h.cnt.setOther (by show w.heap.size ≠ w.heap.size + 1; omega) _).drew, ((h.next.set (n + 2) _).congr (fun i _ => ?_)).drew⟩
 by_cases e : i = n + 2
 ·
  subst e
  rw [if_pos rfl, if_pos (Nat.le_refl _)]
  have e1 : n + 2 - 1 = n + 1 := by omega
  rw [e1, pas_succ]
  simp
 ·
  rw [if_neg e]
  by_cases hle : i ≤ n + 1
  · rw [if_pos hle, if_pos (by omega)]
  · rw [if_neg hle, if_neg (by omega)]
structure ArrB (w wr : World) (z : Nat → Int) (n g6 g T k : Nat) : Prop where
 below : Below w.heap.size w wr
 le6 : w.heap.size ≤ g6
 le : w.heap.size ≤ g
 ne : g6 ≠ g
 next : wr.rowIs g6 156 16 (fun l => .int .i64 (if l = 0 then 0 else pas (cntN z n) (l - 1) + cntN z k l : Nat))
 row : wr.rowIs g 3 T (fun p => .int .i64 (syF z n k p : Nat))
theorem arrB_start {w wr : World} {z : Nat → Int} {n T : Nat} (h : ArrA w wr (cntN z n) 15) :
 ArrB w (wr.alloc (.cells (madeCells #[.int .i64 0] T) 3)) z n (w.heap.size + 1) wr.heap.size T 0 := by
 have h1 := h.below.size
 have h2 := h.next.lt
 refine ⟨h.below.alloc h1 _, by omega, h1, by omega, (h.next.alloc _).congr (fun i hi => ?_), ?_⟩
 ·
  rw [if_pos (by omega)]
  by_cases e : i = 0
  · subst e; simp [pas]
  · rw [if_neg e]; simp [cntN]
 · exact (World.rowIs_made wr (.int .i64 0) T 3).congr (fun i _ => by simp [syF])
theorem arrB_step {w wr : World} {z : Nat → Int} {n g6 g T k m q : Nat} (h : ArrB w wr z n g6 g T k) (hm : z k = (m : Int)) (h0 : m ≠ 0) (hq : q = pas (cntN z n) (m - 1) + cntN z k m) :
 ArrB w ((wr.setCell ⟨g, q, none⟩ (.int .i64 (k : Nat))).setCell ⟨g6, m, none⟩ (.int .i64 ((q : Int) + 1))) z n g6 g T (k + 1) := by
 have hp : plc z n k = q := by unfold plc; rw [hm, Int.toNat_natCast, hq]
 have hzk : z k ≠ 0 := by rw [hm]; omega
 refine ⟨(h.below.setCell h.le _).setCell h.le6 _, h.le6, h.le, h.ne, ((h.next.setOther h.ne _).set m _).congr (fun i _ => ?_), ((h.row.set q _).setOther (fun e => h.ne e.symm) _).congr (fun i _ => ?_)⟩
 ·
  by_cases e : i = m
  ·
   subst e
   have e1 : cntN z (k + 1) i = cntN z k i + 1 := by simp [cntN, hm]
   rw [if_pos rfl, if_neg h0, e1, hq]
   simp only [Value.int.injEq, true_and]
   omega
  ·
   have e1 : cntN z (k + 1) i = cntN z k i := by
    simp only [cntN]
    rw [if_neg (fun h' => e (by rw [hm] at h'; omega)), Nat.add_zero]
   rw [if_neg e, e1]
 ·
  simp only [syF, hp]
  by_cases e : i = q
  · rw [if_pos e, if_pos ⟨hzk, e⟩]
  · rw [if_neg e, if_neg (fun x => e x.2)]
theorem arrB_pass {w wr : World} {z : Nat → Int} {n g6 g T k : Nat} (h : ArrB w wr z n g6 g T k) (h0 : z k = 0) : ArrB w wr z n g6 g T (k + 1) := by
 refine ⟨h.below, h.le6, h.le, h.ne, h.next.congr (fun i _ => ?_), h.row.congr (fun i _ => ?_)⟩
 ·
  simp only [cntN]
  by_cases e : i = 0
  · rw [if_pos e, if_pos e]
  · rw [if_neg e, if_neg e, if_neg (by rw [h0]; omega), Nat.add_zero]
 ·
  simp only [syF]
  rw [if_neg (fun x => x.1 h0)]
/-- What arrange answers. -/
def ArrPost (w : World) (z : Nat → Int) (n : Nat) (e : Ending) (w' : World) : Prop :=
 ∃ g sy, e = .returned (.slice (some ⟨g, 0, none⟩) (pas (cntN z n) 15) (pas (cntN z n) 15)) ∧ w.heap.size ≤ g ∧ w'.rowIs g 3 (pas (cntN z n) 15) (fun p => .int .i64 (sy p : Nat)) ∧ SyOk z n sy ∧ Below w.heap.size w w'
set_option maxHeartbeats 400000 in
theorem arrange_any (A : Array Value) (b off n cap : Nat) (z : Nat → Int) (w : World) (hA : IsTal A (cntN z n)) (hz : IntsAt w b off n z) (hn : n ≤ 288) (hin : ∀ i, i < n → 0 ≤ z i ∧ z i ≤ 15) :
 Calls Tryz.prog 152 #[.agg A, .slice (some ⟨b, off, none⟩) n cap] w (ArrPost w z n) := by
 have hc : ∀ i, cntN z n i ≤ 288 := fun i => Nat.le_trans (cntN_le z n i) hn
 have hall := pas_all z n hin
 obtain ⟨T, hT⟩ : ∃ T, T = pas (cntN z n) 15 := ⟨_, rfl⟩
 have R0 := arr_start w A (cntN z n) hA
 go_enter Tryz.func152, Tryz.ntmps152
 go_wp2
 go_loopw [6] (fun l wr => ∃ n1 : Nat, n1 ≤ 14 ∧ l = .int .i64 (n1 + 2 : Nat) ∧ ArrA w wr (cntN z n) (n1 + 1)) (fun l _ => 17 - (intOf l).toNat)
 case atStart => exact ⟨0, by omega, rfl, R0⟩
 case round =>
  obtain ⟨n1, hn1, rfl, hrel⟩ := hrel
  clear R0
  by_cases hlt : n1 < 14
  ·
   have c1 := hrel.cnt.cell (i := n1 + 1) (by omega)
   have c2 := hrel.next.cell (i := n1 + 1) (by omega)
   have c3 := hrel.next.cell (i := n1 + 2) (by omega)
   have f3 := hrel.next.frozen (n1 + 2)
   rw [if_pos (Nat.le_refl _), Nat.add_sub_cancel] at c2
   have hp := pas_wrap (cntN z n) hc n1
   have hcc := hc (n1 + 1)
   have R := arr_step hrel
   go_wp2
   go_region
   all_goals go_wp2
   all_goals go_roundw
   case rel => exact ⟨n1 + 1, by omega, by go_num, R⟩
   case measure => simp [intOf]; omega
  ·
   obtain rfl : n1 = 14 := by omega
   have c0 := hrel.cnt.cell (i := 0) (by omega)
   have hc0 := hc 0
   have hTI : (n : Int) - (cntN z n 0 : Int) = (T : Int) := by omega
   have hTb : T ≤ 288 := by omega
   have hmk := run_make_row' (P := Tryz.prog) 61 3 (.int .i64 0) 8 Tryz.underlying61 Tryz.info3 rfl .i64 .i64 T (by omega) (by omega)
   have RS := arrB_start (T := T) hrel
   have HT : Hid (T = pas (cntN z n) 15) := hT
   have hIn := hz.later hrel.below
   obtain ⟨g, hg⟩ : ∃ g, g = wr.heap.size := ⟨_, rfl⟩
   obtain ⟨g6, hg6⟩ : ∃ g6, g6 = w.heap.size + 1 := ⟨_, rfl⟩
   have hwl := hrel.below.size
   clear hrel hall hT
   go_wp2
   rw [← hg, ← hg6] at RS
   rw [← hg, ← hg6]
   clear hg hg6
   go_loopw [33] (fun l wq => ∃ k : Nat, k ≤ n ∧ l = .int .i64 k ∧ ArrB w wq z n g6 g T k) (fun l _ => n - (intOf l).toNat)
   case atStart => exact ⟨0, by omega, rfl, RS⟩
   case round =>
    obtain ⟨k, hk, rfl, hrel⟩ := hrel
    clear RS hmk hIn
    by_cases hlt : k < n
    ·
     have hcl := (hz.later hrel.below).cell k hlt
     have hr := hin k hlt
     obtain ⟨m, hm⟩ := Int.eq_ofNat_of_zero_le hr.1
     rw [hm] at hcl hr
     by_cases h0 : m = 0
     ·
      subst h0
      have R := arrB_pass hrel hm
      clear hm
      go_wp2
      go_roundw
      case rel => exact ⟨k + 1, by omega, by go_num, R⟩
      case measure => simp [intOf]; omega
     ·
      have h0' : ((m : Int) == 0) = false := by rw [beq_eq_false_iff_ne]; omega
      have hcn := hrel.next.cell (i := m) (by omega)
      rw [if_neg h0] at hcn
      obtain ⟨q, hq⟩ : ∃ q, q = pas (cntN z n) (m - 1) + cntN z k m := ⟨_, rfl⟩
      rw [← hq] at hcn
      have hqT : q < T := by
       have h1 := plc_lt (z := z) (n := n) hlt (by rw [hm]; omega)
       have h2 := pas_mono (cntN z n) (show (z k).toNat ≤ 15 by rw [hm]; omega)
       have h3 : plc z n k = q := by unfold plc; rw [hm, Int.toNat_natCast, hq]
       have := HT.out
       omega
      have R := arrB_step hrel hm h0 hq
      have k1 := hrel.row.cell hqT
      have k2 := hrel.row.frozen q
      have k4 := hrel.next.frozen m
      have hne : ¬ g6 = g := hrel.ne
      have hne2 : ¬ g = g6 := fun e => hne e.symm
      have HM : Hid (z k = (m : Int)) := hm
      clear hm hq hrel
      go_wp2
      go_roundw
      case rel => exact ⟨k + 1, by omega, by go_num, R⟩
      case measure => simp [intOf]; omega
    ·
     obtain rfl : k = n := by omega
     have P : ArrPost w z k (.returned (.slice (some ⟨g, 0, none⟩) T T)) wr := by
      have e := HT.out
      subst e
      exact ⟨g, _, rfl, hrel.le, hrel.row, fun i hi h1 => syF_at (fun i hi => (hin i hi).1) k (Nat.le_refl _) i hi h1, hrel.below⟩
     clear hrel
     go_wp2
     go_ret
     exact P
/- The program's Fitting and Sparse. -/
theorem Tryz.size185 : (Tryz.prog.info? 185).map (·.size) = some 17 := by kernel_rfl
def zeros17 : Array Value := #[.int .i64 0, .int .i64 0, .int .i64 0, .int .i64 0, .int .i64 0, .int .i64 0, .int .i64 0, .int .i64 0, .int .i64 0, .int .i64 0, .int .i64 0, .int .i64 0, .int .i64 0, .int .i64 0, .int .i64 0, .int .i64 0, .slice none 0 0]
theorem zeros17_all : zeros17.all (·.oneCell') = true := by simp [zeros17, Value.oneCell']
section
variable {P : Program} {ops : Array Oper} {o : Oper} {a : Act} {w : World} {K : Act → World → Prop} {Q : Exit → Act → World → Prop} {E : Prop}
theorem step_load_row (hgd : o.guard = none) (ty : TypeId) (x : Operand) (ho : o.op = .load ty x)
 (g : Nat) (hx : a.eval x = .pointer (some ⟨g, 0, none⟩)) (t : TypeId) (cs : Array Value) (fr : Nat × Nat) (d : TypeDesc) (hg : w.heap[g]? = some (.cells cs t fr))
 (hu : P.underlying ty = some d) (hd : (match d with | .struct _ | .array _ _ => true | _ => false) = true) (hi : (P.info? ty).map (·.size) = some cs.size)
 (h : K (a.put o.dst (.agg cs)) w) : if Region.wanted o (yielded ops a.tmps) = true then Oper.wp P o a w K Q else E := by
 have hw : Region.wanted o (yielded ops a.tmps) = true := by simp [Region.wanted, hgd]
 rw [if_pos hw]
 exact wp_load_row ty x ho g hx t cs fr d hg hu hd hi h
theorem step_store_row (hgd : o.guard = none) (ty : TypeId) (x y : Operand) (ho : o.op = .store ty x y)
 (g : Nat) (cells : Array Value) (hx : a.eval x = .pointer (some ⟨g, 0, none⟩)) (hy : a.eval y = .agg cells)
 (t : TypeId) (old : Array Value) (hg : w.heap[g]? = some (.cells old t (0, 0))) (hi : (P.info? ty).map (·.size) = some cells.size)
 (hold : old.size = cells.size) (h1 : cells.all (·.oneCell') = true)
 (h : K (a.put o.dst undef) (w.setRow g cells)) : if Region.wanted o (yielded ops a.tmps) = true then Oper.wp P o a w K Q else E := by
 have hw : Region.wanted o (yielded ops a.tmps) = true := by simp [Region.wanted, hgd]
 rw [if_pos hw]
 exact wp_store_row ty x y ho g cells hx hy t old hg hi hold h1 h
theorem step_build (hgd : o.guard = none) (t : TypeId) (parts : Array (Nat × Operand)) (ho : o.op = .build t parts) (cells : Array Value) (vs : List (Nat × Value))
 (hv : (parts.map fun (i, x) => (i, a.eval x)).toList = vs) (hf : P.built t vs = some cells)
 (h : K (a.put o.dst (.agg cells)) w) : if Region.wanted o (yielded ops a.tmps) = true then Oper.wp P o a w K Q else E := by
 have hw : Region.wanted o (yielded ops a.tmps) = true := by simp [Region.wanted, hgd]
 rw [if_pos hw]
 exact wp_build t parts ho (by rw [hv, hf]; rfl) (by rw [hv, hf]; exact h)
end
/-- The cells of a tally. -/
def talA (c : Nat → Nat) : Array Value := #[.int .i64 (c 0 : Nat), .int .i64 (c 1 : Nat), .int .i64 (c 2 : Nat), .int .i64 (c 3 : Nat), .int .i64 (c 4 : Nat), .int .i64 (c 5 : Nat), .int .i64 (c 6 : Nat), .int .i64 (c 7 : Nat), .int .i64 (c 8 : Nat), .int .i64 (c 9 : Nat), .int .i64 (c 10 : Nat), .int .i64 (c 11 : Nat), .int .i64 (c 12 : Nat), .int .i64 (c 13 : Nat), .int .i64 (c 14 : Nat), .int .i64 (c 15 : Nat)]
/-- A set's cells: how many codes of each length, and the symbols. -/
def setA (c : Nat → Nat) (v : Value) : Array Value := #[.int .i64 (c 0 : Nat), .int .i64 (c 1 : Nat), .int .i64 (c 2 : Nat), .int .i64 (c 3 : Nat), .int .i64 (c 4 : Nat), .int .i64 (c 5 : Nat), .int .i64 (c 6 : Nat), .int .i64 (c 7 : Nat), .int .i64 (c 8 : Nat), .int .i64 (c 9 : Nat), .int .i64 (c 10 : Nat), .int .i64 (c 11 : Nat), .int .i64 (c 12 : Nat), .int .i64 (c 13 : Nat), .int .i64 (c 14 : Nat), .int .i64 (c 15 : Nat), v]
theorem talA_at (c : Nat → Nat) : ∀ i, i < 16 → (talA c)[i]? = some (.int .i64 (c i : Nat))
 | 0, _ => rfl
 | 1, _ => rfl
 | 2, _ => rfl
 | 3, _ => rfl
 | 4, _ => rfl
 | 5, _ => rfl
 | 6, _ => rfl
 | 7, _ => rfl
 | 8, _ => rfl
 | 9, _ => rfl
 | 10, _ => rfl
 | 11, _ => rfl
 | 12, _ => rfl
 | 13, _ => rfl
 | 14, _ => rfl
 | 15, _ => rfl
 | n + 16, h => absurd h (by omega)
theorem IsTal.eq {A : Array Value} {c : Nat → Nat} (h : IsTal A c) : A = talA c := by
 apply Array.ext_getElem?
 intro i
 by_cases hi : i < 16
 · rw [h.at' i hi, talA_at c i hi]
 ·
  have hs := h.size
  rw [Array.getElem?_eq_none (by omega), Array.getElem?_eq_none (by show 16 ≤ i; omega)]
theorem built_set (c : Nat → Nat) (p : Option Addr) (n m : Nat) : Tryz.prog.built 185 [(0, .agg (talA c)), (1, .slice p n m)] = some (setA c (.slice p n m)) := by
 kernel_rfl
theorem setA_all (c : Nat → Nat) (p : Option Addr) (n m : Nat) : (setA c (.slice p n m)).all (·.oneCell') = true := by
 simp [setA, Value.oneCell']
/-- What Fitting and Sparse answer. -/
def SetPost (w : World) (z : Nat → Int) (n : Nat) (ok : Bool) (e : Ending) (w' : World) : Prop :=
 ∃ A, e = .returned (.tuple #[.agg A, .bool ok]) ∧ (A.size = 17 ∧ A.all (·.oneCell') = true) ∧ (ok = true → ∃ g sy, A = setA (cntN z n) (.slice (some ⟨g, 0, none⟩) (pas (cntN z n) 15) (pas (cntN z n) 15)) ∧ w.heap.size ≤ g ∧ w'.rowIs g 3 (pas (cntN z n) 15) (fun p => .int .i64 (sy p : Nat)) ∧ SyOk z n sy) ∧ Below w.heap.size w w'
/-- Do the lengths fit, or is there just one, of length 1, or none? -/
def spaB (z : Nat → Int) (n : Nat) : Bool := okB z n && (decide (kr (cntN z n) 15 = 32768) || fewB (cntN z n))
set_option maxRecDepth 4000 in
set_option maxHeartbeats 1000000 in
theorem fitting_any (b off n cap : Nat) (z : Nat → Int) (w : World) (hz : IntsAt w b off n z) (hn : n ≤ 9223372036854775807) :
 Calls Tryz.prog 147 #[.slice (some ⟨b, off, none⟩) n cap] w (SetPost w z n (fitB z n)) := by
 have hz0 := hz.later ((Below.refl w.heap.size w).alloc (Nat.le_refl _) (.cells zeros17 185))
 have hr0 := heap_alloc_last w (.cells zeros17 185)
 have hb0 : Below w.heap.size w (w.alloc (.cells zeros17 185)) := (Below.refl _ _).alloc (Nat.le_refl _) _
 go_enter Tryz.func147, Tryz.ntmps147
 go_wp2_with fail
 refine (count_any b off n cap z _ hz0 hn).mono ?_
 rintro e w1 ⟨A, c, rfl, tA, hcA, hb1⟩
 have hr1 : w1.heap[w.heap.size]? = some (.cells zeros17 185 (0, 0)) := (hb1.block w.heap.size (by simp)).trans hr0
 have hbb1 : Below w.heap.size w w1 := hb0.trans (hb1.mono (by simp))
 have hnew := heap_alloc_last w1 (.cells A 156)
 have hi : (Tryz.prog.info? 156).map (·.size) = some A.size := by rw [tA.size]; exact Tryz.size156
 have hzs : zeros16.size = A.size := by rw [tA.size]; rfl
 have hall := tA.all
 have hlt1 : w.heap.size < w1.heap.size := by have := hb1.size; simp at this; omega
 have hr1' : (w1.alloc (.cells A 156)).heap[w.heap.size]? = some (.cells zeros17 185 (0, 0)) := (Below.heap_alloc w1 _ _ hlt1).trans hr1
 cases hok : okB z n
 ·
  have HF : Hid (fitB z n = false) := by show _ = _; simp [fitB, hok]
  have hbz : Below w.heap.size w ((w1.alloc (.cells A 156)).setRow w.heap.size zeros17) := Below.setRow (hbb1.alloc hbb1.size _) (Nat.le_refl _) _
  have hne := setRow_heap (w1.alloc (.cells A 156)) w.heap.size zeros17 zeros17 185 (0, 0) hr1'
  clear hcA
  go_upto_region 2 with (refine wpList_store_new rfl 156 (.tmp 4) (.tmp 9) rfl A rfl rfl zeros16 hi hzs hall ?_)
  go_upto_region 3 with fail
  go_wp2_with (refine wpList_store_row rfl 185 (.tmp 2) (.tmp 18) rfl w.heap.size zeros17 rfl rfl 185 zeros17 hr1' Tryz.size185 rfl zeros17_all ?_)
  refine bodyPost_ret (v := .tuple #[.agg zeros17, .bool false]) (res_cell_tmp Tryz.results147 _ _ w.heap.size 185 zeros17 (0, 0) _ (.bool false) rfl rfl hne Tryz.underlying185 rfl Tryz.size185) rfl ?_
  rw [HF.out]
  exact ⟨zeros17, rfl, ⟨rfl, zeros17_all⟩, fun h => absurd h (by simp), hbz⟩
 ·
  obtain rfl := hcA hok
  obtain rfl := tA.eq
  obtain ⟨hn288, hin⟩ := (okB_iff z n).1 hok
  have hc : ∀ i, cntN z n i ≤ 288 := fun i => Nat.le_trans (cntN_le z n i) hn288
  go_upto_region 2 with (refine wpList_store_new rfl 156 (.tmp 4) (.tmp 9) rfl (talA (cntN z n)) rfl rfl zeros16 hi hzs hall ?_)
  go_wp2_with (first | (refine wpList_load_row_g rfl 156 (.tmp 4) rfl w1.heap.size rfl 156 (talA (cntN z n)) (0, 0) _ hnew Tryz.underlying156 rfl hi ?_) | fail)
  refine (fit_any (talA (cntN z n)) _ _ tA hc).mono ?_
  rintro e wf ⟨rfl, hb2⟩
  have hnewf : wf.heap[w1.heap.size]? = some (.cells (talA (cntN z n)) 156 (0, 0)) := (hb2.block w1.heap.size (by simp)).trans hnew
  have hbbf : Below w.heap.size w wf := (hbb1.alloc hbb1.size _).trans (hb2.mono (by simp; have := hbb1.size; omega))
  have hrf : wf.heap[w.heap.size]? = some (.cells zeros17 185 (0, 0)) := (hb2.block w.heap.size (by simp; omega)).trans hr1'
  have HO : Hid (okB z n = true) := hok
  have hltf : w1.heap.size < wf.heap.size := by have := hb2.size; simp at this; omega
  clear hok hb2 hnew hzs hall hr1' hr1 hr0 hz0 hb0 hb1 hcA
  by_cases hkr : kr (cntN z n) 15 = 32768
  ·
   have HF : Hid (fitB z n = true) := by show _ = _; simp only [fitB, Bool.and_eq_true, decide_eq_true_eq]; exact ⟨HO.out, hkr⟩
   obtain ⟨w2, hw2⟩ : ∃ w2, w2 = wf := ⟨_, rfl⟩
   rw [← hw2] at hnewf hbbf hrf hltf ⊢
   clear hw2
   have hbb2d : Below w.heap.size w w2.drew := hbbf.drew
   have hz2 := hz.later hbb2d
   have hlt2 : w1.heap.size < w2.drew.heap.size := hltf
   have hlt3 : w.heap.size < w2.drew.heap.size := by show w.heap.size < w2.heap.size; omega
   have hnew2d : w2.drew.heap[w1.heap.size]? = some (.cells (talA (cntN z n)) 156 (0, 0)) := hnewf
   have hr2d : w2.drew.heap[w.heap.size]? = some (.cells zeros17 185 (0, 0)) := hrf
   clear hnewf hrf hltf hbbf hi
   go_wp2_with fail
   refine wp_region_any (by kernel_rfl) ?_
   change wpAny _ _ _ _ _ _ _ (World.drew _)
   refine wpAny_take (i := 2) (v := .slice (some ⟨b, off, none⟩) n cap) rfl (by kernel_rfl) (by kernel_rfl) (by kernel_rfl) (fun _ _ _ h => h) (Or.inl ⟨by rfl, ?_⟩) ?_
   · intro w; go_simp
   refine wpAny_ready (rs := [0, 1]) (by kernel_rfl) (by simp) ?_
   refine AllReady.cons rfl (fun K hK => ?_) (AllReady.cons rfl (fun K hK => ?_) AllReady.nil)
   ·
    refine step_load_row rfl 156 (.tmp 4) rfl w1.heap.size (by simp [Act.eval, Act.put]) 156 (talA (cntN z n)) (0, 0) _ hnew2d Tryz.underlying156 rfl Tryz.size156 ?_
    go_simp
    refine hK _ _ ?_
    clear hK K
    refine wpAny_ready (rs := [1]) (by kernel_rfl) (by simp) ?_
    refine AllReady.cons rfl (fun K hK => ?_) AllReady.nil
    refine step_load_row rfl 156 (.tmp 4) rfl w1.heap.size (by simp [Act.eval]) 156 (talA (cntN z n)) (0, 0) _ hnew2d Tryz.underlying156 rfl Tryz.size156 ?_
    go_simp
    refine hK _ _ ?_
    clear hK K
    refine wpAny_ready (rs := [3]) (by kernel_rfl) (by simp) ?_
    refine AllReady.cons rfl (fun K hK => ?_) AllReady.nil
    go_simp
    go_wp2_with (go_at_call 152; refine (arrange_any (talA (cntN z n)) b off n cap z _ tA hz2 hn288 hin).mono ?_; rintro e w3 ⟨g, sy, rfl, hgl, hrow, hsy, hb3⟩; have hnew3 := (hb3.block w1.heap.size hlt2).trans hnew2d; have hr3 := (hb3.block w.heap.size hlt3).trans hr2d; have hbb3 := hbb2d.trans (hb3.mono hbb2d.size); have hgl' := Nat.lt_of_lt_of_le hlt3 hgl; clear hb3 hgl)
    first | (refine hK _ _ ?_; clear hK K) | skip
    refine wpAny_ready (rs := [4]) (by kernel_rfl) (by simp) ?_
    refine AllReady.cons rfl (fun K hK => ?_) AllReady.nil
    refine step_build rfl 185 #[(0, .tmp 19), (1, .tmp 22)] rfl (setA (cntN z n) (.slice (some ⟨g, 0, none⟩) (pas (cntN z n) 15) (pas (cntN z n) 15))) [(0, .agg (talA (cntN z n))), (1, .slice (some ⟨g, 0, none⟩) (pas (cntN z n) 15) (pas (cntN z n) 15))] (by simp [Act.eval]) (built_set (cntN z n) (some ⟨g, 0, none⟩) (pas (cntN z n) 15) (pas (cntN z n) 15)) ?_
    go_simp
    refine hK _ _ ?_
    clear hK K
    refine wpAny_ready (rs := [5]) (by kernel_rfl) (by simp) ?_
    refine AllReady.cons rfl (fun K hK => ?_) AllReady.nil
    refine step_store_row rfl 185 (.tmp 2) (.tmp 23) rfl w.heap.size (setA (cntN z n) (.slice (some ⟨g, 0, none⟩) (pas (cntN z n) 15) (pas (cntN z n) 15))) (by simp [Act.eval]) (by simp [Act.eval]) 185 zeros17 hr3 Tryz.size185 rfl (setA_all _ _ _ _) ?_
    go_simp
    refine hK _ _ ?_
    clear hK K
    refine wpAny_ready (rs := [6]) (by kernel_rfl) (by simp) ?_
    refine AllReady.cons rfl (fun K hK => ?_) AllReady.nil
    go_simp
    refine hK _ _ ?_
    clear hK K
    refine wpAny_done (by kernel_rfl) ?_ _
    have hne := setRow_heap w3 w.heap.size zeros17 (setA (cntN z n) (.slice (some ⟨g, 0, none⟩) (pas (cntN z n) 15) (pas (cntN z n) 15))) 185 (0, 0) hr3
    go_wp2
    refine bodyPost_ret (v := .tuple #[.agg (setA (cntN z n) (.slice (some ⟨g, 0, none⟩) (pas (cntN z n) 15) (pas (cntN z n) 15))), .bool true]) (res_cell_tmp Tryz.results147 _ _ w.heap.size 185 _ (0, 0) _ (.bool true) rfl rfl hne Tryz.underlying185 rfl Tryz.size185) rfl ?_
    rw [HF.out]
    exact ⟨_, rfl, ⟨rfl, setA_all _ _ _ _⟩, fun _ => ⟨g, sy, rfl, Nat.le_of_lt hgl', hrow.of_block (setRow_other w3 w.heap.size g _ (by omega)), hsy⟩, Below.setRow hbb3 (Nat.le_refl _) _⟩
   ·
    refine step_load_row rfl 156 (.tmp 4) rfl w1.heap.size (by simp [Act.eval, Act.put]) 156 (talA (cntN z n)) (0, 0) _ hnew2d Tryz.underlying156 rfl Tryz.size156 ?_
    go_simp
    refine hK _ _ ?_
    clear hK K
    refine wpAny_ready (rs := [0, 3]) (by kernel_rfl) (by simp) ?_
    refine AllReady.cons rfl (fun K hK => ?_) (AllReady.cons rfl (fun K hK => ?_) AllReady.nil)
    ·
     refine step_load_row rfl 156 (.tmp 4) rfl w1.heap.size (by simp [Act.eval]) 156 (talA (cntN z n)) (0, 0) _ hnew2d Tryz.underlying156 rfl Tryz.size156 ?_
     go_simp
     refine hK _ _ ?_
     clear hK K
     refine wpAny_ready (rs := [3]) (by kernel_rfl) (by simp) ?_
     refine AllReady.cons rfl (fun K hK => ?_) AllReady.nil
     go_simp
     go_wp2_with (go_at_call 152; refine (arrange_any (talA (cntN z n)) b off n cap z _ tA hz2 hn288 hin).mono ?_; rintro e w3 ⟨g, sy, rfl, hgl, hrow, hsy, hb3⟩; have hnew3 := (hb3.block w1.heap.size hlt2).trans hnew2d; have hr3 := (hb3.block w.heap.size hlt3).trans hr2d; have hbb3 := hbb2d.trans (hb3.mono hbb2d.size); have hgl' := Nat.lt_of_lt_of_le hlt3 hgl; clear hb3 hgl)
     first | (refine hK _ _ ?_; clear hK K) | skip
     refine wpAny_ready (rs := [4]) (by kernel_rfl) (by simp) ?_
     refine AllReady.cons rfl (fun K hK => ?_) AllReady.nil
     refine step_build rfl 185 #[(0, .tmp 19), (1, .tmp 22)] rfl (setA (cntN z n) (.slice (some ⟨g, 0, none⟩) (pas (cntN z n) 15) (pas (cntN z n) 15))) [(0, .agg (talA (cntN z n))), (1, .slice (some ⟨g, 0, none⟩) (pas (cntN z n) 15) (pas (cntN z n) 15))] (by simp [Act.eval]) (built_set (cntN z n) (some ⟨g, 0, none⟩) (pas (cntN z n) 15) (pas (cntN z n) 15)) ?_
     go_simp
     refine hK _ _ ?_
     clear hK K
     refine wpAny_ready (rs := [5]) (by kernel_rfl) (by simp) ?_
     refine AllReady.cons rfl (fun K hK => ?_) AllReady.nil
     refine step_store_row rfl 185 (.tmp 2) (.tmp 23) rfl w.heap.size (setA (cntN z n) (.slice (some ⟨g, 0, none⟩) (pas (cntN z n) 15) (pas (cntN z n) 15))) (by simp [Act.eval]) (by simp [Act.eval]) 185 zeros17 hr3 Tryz.size185 rfl (setA_all _ _ _ _) ?_
     go_simp
     refine hK _ _ ?_
     clear hK K
     refine wpAny_ready (rs := [6]) (by kernel_rfl) (by simp) ?_
     refine AllReady.cons rfl (fun K hK => ?_) AllReady.nil
     go_simp
     refine hK _ _ ?_
     clear hK K
     refine wpAny_done (by kernel_rfl) ?_ _
     have hne := setRow_heap w3 w.heap.size zeros17 (setA (cntN z n) (.slice (some ⟨g, 0, none⟩) (pas (cntN z n) 15) (pas (cntN z n) 15))) 185 (0, 0) hr3
     go_wp2
     refine bodyPost_ret (v := .tuple #[.agg (setA (cntN z n) (.slice (some ⟨g, 0, none⟩) (pas (cntN z n) 15) (pas (cntN z n) 15))), .bool true]) (res_cell_tmp Tryz.results147 _ _ w.heap.size 185 _ (0, 0) _ (.bool true) rfl rfl hne Tryz.underlying185 rfl Tryz.size185) rfl ?_
     rw [HF.out]
     exact ⟨_, rfl, ⟨rfl, setA_all _ _ _ _⟩, fun _ => ⟨g, sy, rfl, Nat.le_of_lt hgl', hrow.of_block (setRow_other w3 w.heap.size g _ (by omega)), hsy⟩, Below.setRow hbb3 (Nat.le_refl _) _⟩
    ·
     go_simp
     go_wp2_with (go_at_call 152; refine (arrange_any (talA (cntN z n)) b off n cap z _ tA hz2 hn288 hin).mono ?_; rintro e w3 ⟨g, sy, rfl, hgl, hrow, hsy, hb3⟩; have hnew3 := (hb3.block w1.heap.size hlt2).trans hnew2d; have hr3 := (hb3.block w.heap.size hlt3).trans hr2d; have hbb3 := hbb2d.trans (hb3.mono hbb2d.size); have hgl' := Nat.lt_of_lt_of_le hlt3 hgl; clear hb3 hgl)
     first | (refine hK _ _ ?_; clear hK K) | skip
     refine wpAny_ready (rs := [0]) (by kernel_rfl) (by simp) ?_
     refine AllReady.cons rfl (fun K hK => ?_) AllReady.nil
     refine step_load_row rfl 156 (.tmp 4) rfl w1.heap.size (by simp [Act.eval]) 156 (talA (cntN z n)) (0, 0) _ hnew3 Tryz.underlying156 rfl Tryz.size156 ?_
     go_simp
     refine hK _ _ ?_
     clear hK K
     refine wpAny_ready (rs := [4]) (by kernel_rfl) (by simp) ?_
     refine AllReady.cons rfl (fun K hK => ?_) AllReady.nil
     refine step_build rfl 185 #[(0, .tmp 19), (1, .tmp 22)] rfl (setA (cntN z n) (.slice (some ⟨g, 0, none⟩) (pas (cntN z n) 15) (pas (cntN z n) 15))) [(0, .agg (talA (cntN z n))), (1, .slice (some ⟨g, 0, none⟩) (pas (cntN z n) 15) (pas (cntN z n) 15))] (by simp [Act.eval]) (built_set (cntN z n) (some ⟨g, 0, none⟩) (pas (cntN z n) 15) (pas (cntN z n) 15)) ?_
     go_simp
     refine hK _ _ ?_
     clear hK K
     refine wpAny_ready (rs := [5]) (by kernel_rfl) (by simp) ?_
     refine AllReady.cons rfl (fun K hK => ?_) AllReady.nil
     refine step_store_row rfl 185 (.tmp 2) (.tmp 23) rfl w.heap.size (setA (cntN z n) (.slice (some ⟨g, 0, none⟩) (pas (cntN z n) 15) (pas (cntN z n) 15))) (by simp [Act.eval]) (by simp [Act.eval]) 185 zeros17 hr3 Tryz.size185 rfl (setA_all _ _ _ _) ?_
     go_simp
     refine hK _ _ ?_
     clear hK K
     refine wpAny_ready (rs := [6]) (by kernel_rfl) (by simp) ?_
     refine AllReady.cons rfl (fun K hK => ?_) AllReady.nil
     go_simp
     refine hK _ _ ?_
     clear hK K
     refine wpAny_done (by kernel_rfl) ?_ _
     have hne := setRow_heap w3 w.heap.size zeros17 (setA (cntN z n) (.slice (some ⟨g, 0, none⟩) (pas (cntN z n) 15) (pas (cntN z n) 15))) 185 (0, 0) hr3
     go_wp2
     refine bodyPost_ret (v := .tuple #[.agg (setA (cntN z n) (.slice (some ⟨g, 0, none⟩) (pas (cntN z n) 15) (pas (cntN z n) 15))), .bool true]) (res_cell_tmp Tryz.results147 _ _ w.heap.size 185 _ (0, 0) _ (.bool true) rfl rfl hne Tryz.underlying185 rfl Tryz.size185) rfl ?_
     rw [HF.out]
     exact ⟨_, rfl, ⟨rfl, setA_all _ _ _ _⟩, fun _ => ⟨g, sy, rfl, Nat.le_of_lt hgl', hrow.of_block (setRow_other w3 w.heap.size g _ (by omega)), hsy⟩, Below.setRow hbb3 (Nat.le_refl _) _⟩
  ·
   have hdk : decide (kr (cntN z n) 15 = 32768) = false := by rw [decide_eq_false_iff_not]; exact hkr
   have HF : Hid (fitB z n = false) := by show _ = _; simp [fitB, hkr]
   have hbz : Below w.heap.size w (wf.setRow w.heap.size zeros17) := Below.setRow hbbf (Nat.le_refl _) _
   have hne := setRow_heap wf w.heap.size zeros17 zeros17 185 (0, 0) hrf
   go_upto_region 3 with fail
   go_wp2_with (refine wpList_store_row rfl 185 (.tmp 2) (.tmp 18) rfl w.heap.size zeros17 rfl rfl 185 zeros17 hrf Tryz.size185 rfl zeros17_all ?_)
   refine bodyPost_ret (v := .tuple #[.agg zeros17, .bool false]) (res_cell_tmp Tryz.results147 _ _ w.heap.size 185 zeros17 (0, 0) _ (.bool false) rfl rfl hne Tryz.underlying185 rfl Tryz.size185) rfl ?_
   rw [HF.out]
   exact ⟨zeros17, rfl, ⟨rfl, zeros17_all⟩, fun h => absurd h (by simp), hbz⟩
set_option maxRecDepth 4000 in
set_option maxHeartbeats 1000000 in
theorem sparse_any (b off n cap : Nat) (z : Nat → Int) (w : World) (hz : IntsAt w b off n z) (hn : n ≤ 9223372036854775807) :
 Calls Tryz.prog 151 #[.slice (some ⟨b, off, none⟩) n cap] w (SetPost w z n (spaB z n)) := by
 have hz0 := hz.later ((Below.refl w.heap.size w).alloc (Nat.le_refl _) (.cells zeros17 185))
 have hr0 := heap_alloc_last w (.cells zeros17 185)
 have hb0 : Below w.heap.size w (w.alloc (.cells zeros17 185)) := (Below.refl _ _).alloc (Nat.le_refl _) _
 go_enter Tryz.func151, Tryz.ntmps151
 go_wp2_with fail
 refine (count_any b off n cap z _ hz0 hn).mono ?_
 rintro e w1 ⟨A, c, rfl, tA, hcA, hb1⟩
 have hr1 : w1.heap[w.heap.size]? = some (.cells zeros17 185 (0, 0)) := (hb1.block w.heap.size (by simp)).trans hr0
 have hbb1 : Below w.heap.size w w1 := hb0.trans (hb1.mono (by simp))
 have hnew := heap_alloc_last w1 (.cells A 156)
 have hi : (Tryz.prog.info? 156).map (·.size) = some A.size := by rw [tA.size]; exact Tryz.size156
 have hzs : zeros16.size = A.size := by rw [tA.size]; rfl
 have hall := tA.all
 have hlt1 : w.heap.size < w1.heap.size := by have := hb1.size; simp at this; omega
 have hr1' : (w1.alloc (.cells A 156)).heap[w.heap.size]? = some (.cells zeros17 185 (0, 0)) := (Below.heap_alloc w1 _ _ hlt1).trans hr1
 cases hok : okB z n
 ·
  have HF : Hid (spaB z n = false) := by show _ = _; simp [spaB, hok]
  have hbz : Below w.heap.size w ((w1.alloc (.cells A 156)).setRow w.heap.size zeros17) := Below.setRow (hbb1.alloc hbb1.size _) (Nat.le_refl _) _
  have hne := setRow_heap (w1.alloc (.cells A 156)) w.heap.size zeros17 zeros17 185 (0, 0) hr1'
  clear hcA
  go_upto_region 2 with (refine wpList_store_new rfl 156 (.tmp 4) (.tmp 9) rfl A rfl rfl zeros16 hi hzs hall ?_)
  go_upto_region 3 with fail
  go_wp2_with (refine wpList_store_row rfl 185 (.tmp 2) (.tmp 23) rfl w.heap.size zeros17 rfl rfl 185 zeros17 hr1' Tryz.size185 rfl zeros17_all ?_)
  refine bodyPost_ret (v := .tuple #[.agg zeros17, .bool false]) (res_cell_tmp Tryz.results151 _ _ w.heap.size 185 zeros17 (0, 0) _ (.bool false) rfl rfl hne Tryz.underlying185 rfl Tryz.size185) rfl ?_
  rw [HF.out]
  exact ⟨zeros17, rfl, ⟨rfl, zeros17_all⟩, fun h => absurd h (by simp), hbz⟩
 ·
  obtain rfl := hcA hok
  obtain rfl := tA.eq
  obtain ⟨hn288, hin⟩ := (okB_iff z n).1 hok
  have hc : ∀ i, cntN z n i ≤ 288 := fun i => Nat.le_trans (cntN_le z n i) hn288
  go_upto_region 2 with (refine wpList_store_new rfl 156 (.tmp 4) (.tmp 9) rfl (talA (cntN z n)) rfl rfl zeros16 hi hzs hall ?_)
  go_wp2_with (first | (refine wpList_load_row_g rfl 156 (.tmp 4) rfl w1.heap.size rfl 156 (talA (cntN z n)) (0, 0) _ hnew Tryz.underlying156 rfl hi ?_) | fail)
  refine (fit_any (talA (cntN z n)) _ _ tA hc).mono ?_
  rintro e wf ⟨rfl, hb2⟩
  have hnewf : wf.heap[w1.heap.size]? = some (.cells (talA (cntN z n)) 156 (0, 0)) := (hb2.block w1.heap.size (by simp)).trans hnew
  have hbbf : Below w.heap.size w wf := (hbb1.alloc hbb1.size _).trans (hb2.mono (by simp; have := hbb1.size; omega))
  have hrf : wf.heap[w.heap.size]? = some (.cells zeros17 185 (0, 0)) := (hb2.block w.heap.size (by simp; omega)).trans hr1'
  have HO : Hid (okB z n = true) := hok
  have hltf : w1.heap.size < wf.heap.size := by have := hb2.size; simp at this; omega
  clear hok hb2 hnew hzs hall hr1' hr1 hr0 hz0 hb0 hb1 hcA
  by_cases hkr : kr (cntN z n) 15 = 32768
  ·
   have HF : Hid (spaB z n = true) := by show _ = _; simp only [spaB]; rw [HO.out]; simp [hkr]
   obtain ⟨w2, hw2⟩ : ∃ w2, w2 = wf := ⟨_, rfl⟩
   rw [← hw2] at hnewf hbbf hrf hltf ⊢
   clear hw2
   have hbb2d : Below w.heap.size w w2.drew := hbbf.drew
   have hz2 := hz.later hbb2d
   have hlt2 : w1.heap.size < w2.drew.heap.size := hltf
   have hlt3 : w.heap.size < w2.drew.heap.size := by show w.heap.size < w2.heap.size; omega
   have hnew2d : w2.drew.heap[w1.heap.size]? = some (.cells (talA (cntN z n)) 156 (0, 0)) := hnewf
   have hr2d : w2.drew.heap[w.heap.size]? = some (.cells zeros17 185 (0, 0)) := hrf
   clear hnewf hrf hltf hbbf hi
   go_wp2_with fail
   refine wp_region_any (by kernel_rfl) ?_
   change wpAny _ _ _ _ _ _ _ (World.drew _)
   refine wpAny_take (i := 2) (v := .slice (some ⟨b, off, none⟩) n cap) rfl (by kernel_rfl) (by kernel_rfl) (by kernel_rfl) (fun _ _ _ h => h) (Or.inl ⟨by rfl, ?_⟩) ?_
   · intro w; go_simp
   refine wpAny_ready (rs := [0, 1]) (by kernel_rfl) (by simp) ?_
   refine AllReady.cons rfl (fun K hK => ?_) (AllReady.cons rfl (fun K hK => ?_) AllReady.nil)
   ·
    refine step_load_row rfl 156 (.tmp 4) rfl w1.heap.size (by simp [Act.eval, Act.put]) 156 (talA (cntN z n)) (0, 0) _ hnew2d Tryz.underlying156 rfl Tryz.size156 ?_
    go_simp
    refine hK _ _ ?_
    clear hK K
    refine wpAny_ready (rs := [1]) (by kernel_rfl) (by simp) ?_
    refine AllReady.cons rfl (fun K hK => ?_) AllReady.nil
    refine step_load_row rfl 156 (.tmp 4) rfl w1.heap.size (by simp [Act.eval]) 156 (talA (cntN z n)) (0, 0) _ hnew2d Tryz.underlying156 rfl Tryz.size156 ?_
    go_simp
    refine hK _ _ ?_
    clear hK K
    refine wpAny_ready (rs := [3]) (by kernel_rfl) (by simp) ?_
    refine AllReady.cons rfl (fun K hK => ?_) AllReady.nil
    go_simp
    go_wp2_with (go_at_call 152; refine (arrange_any (talA (cntN z n)) b off n cap z _ tA hz2 hn288 hin).mono ?_; rintro e w3 ⟨g, sy, rfl, hgl, hrow, hsy, hb3⟩; have hnew3 := (hb3.block w1.heap.size hlt2).trans hnew2d; have hr3 := (hb3.block w.heap.size hlt3).trans hr2d; have hbb3 := hbb2d.trans (hb3.mono hbb2d.size); have hgl' := Nat.lt_of_lt_of_le hlt3 hgl; clear hb3 hgl)
    first | (refine hK _ _ ?_; clear hK K) | skip
    refine wpAny_ready (rs := [4]) (by kernel_rfl) (by simp) ?_
    refine AllReady.cons rfl (fun K hK => ?_) AllReady.nil
    refine step_build rfl 185 #[(0, .tmp 24), (1, .tmp 27)] rfl (setA (cntN z n) (.slice (some ⟨g, 0, none⟩) (pas (cntN z n) 15) (pas (cntN z n) 15))) [(0, .agg (talA (cntN z n))), (1, .slice (some ⟨g, 0, none⟩) (pas (cntN z n) 15) (pas (cntN z n) 15))] (by simp [Act.eval]) (built_set (cntN z n) (some ⟨g, 0, none⟩) (pas (cntN z n) 15) (pas (cntN z n) 15)) ?_
    go_simp
    refine hK _ _ ?_
    clear hK K
    refine wpAny_ready (rs := [5]) (by kernel_rfl) (by simp) ?_
    refine AllReady.cons rfl (fun K hK => ?_) AllReady.nil
    refine step_store_row rfl 185 (.tmp 2) (.tmp 28) rfl w.heap.size (setA (cntN z n) (.slice (some ⟨g, 0, none⟩) (pas (cntN z n) 15) (pas (cntN z n) 15))) (by simp [Act.eval]) (by simp [Act.eval]) 185 zeros17 hr3 Tryz.size185 rfl (setA_all _ _ _ _) ?_
    go_simp
    refine hK _ _ ?_
    clear hK K
    refine wpAny_ready (rs := [6]) (by kernel_rfl) (by simp) ?_
    refine AllReady.cons rfl (fun K hK => ?_) AllReady.nil
    go_simp
    refine hK _ _ ?_
    clear hK K
    refine wpAny_done (by kernel_rfl) ?_ _
    have hne := setRow_heap w3 w.heap.size zeros17 (setA (cntN z n) (.slice (some ⟨g, 0, none⟩) (pas (cntN z n) 15) (pas (cntN z n) 15))) 185 (0, 0) hr3
    go_wp2
    refine bodyPost_ret (v := .tuple #[.agg (setA (cntN z n) (.slice (some ⟨g, 0, none⟩) (pas (cntN z n) 15) (pas (cntN z n) 15))), .bool true]) (res_cell_tmp Tryz.results151 _ _ w.heap.size 185 _ (0, 0) _ (.bool true) rfl rfl hne Tryz.underlying185 rfl Tryz.size185) rfl ?_
    rw [HF.out]
    exact ⟨_, rfl, ⟨rfl, setA_all _ _ _ _⟩, fun _ => ⟨g, sy, rfl, Nat.le_of_lt hgl', hrow.of_block (setRow_other w3 w.heap.size g _ (by omega)), hsy⟩, Below.setRow hbb3 (Nat.le_refl _) _⟩
   ·
    refine step_load_row rfl 156 (.tmp 4) rfl w1.heap.size (by simp [Act.eval, Act.put]) 156 (talA (cntN z n)) (0, 0) _ hnew2d Tryz.underlying156 rfl Tryz.size156 ?_
    go_simp
    refine hK _ _ ?_
    clear hK K
    refine wpAny_ready (rs := [0, 3]) (by kernel_rfl) (by simp) ?_
    refine AllReady.cons rfl (fun K hK => ?_) (AllReady.cons rfl (fun K hK => ?_) AllReady.nil)
    ·
     refine step_load_row rfl 156 (.tmp 4) rfl w1.heap.size (by simp [Act.eval]) 156 (talA (cntN z n)) (0, 0) _ hnew2d Tryz.underlying156 rfl Tryz.size156 ?_
     go_simp
     refine hK _ _ ?_
     clear hK K
     refine wpAny_ready (rs := [3]) (by kernel_rfl) (by simp) ?_
     refine AllReady.cons rfl (fun K hK => ?_) AllReady.nil
     go_simp
     go_wp2_with (go_at_call 152; refine (arrange_any (talA (cntN z n)) b off n cap z _ tA hz2 hn288 hin).mono ?_; rintro e w3 ⟨g, sy, rfl, hgl, hrow, hsy, hb3⟩; have hnew3 := (hb3.block w1.heap.size hlt2).trans hnew2d; have hr3 := (hb3.block w.heap.size hlt3).trans hr2d; have hbb3 := hbb2d.trans (hb3.mono hbb2d.size); have hgl' := Nat.lt_of_lt_of_le hlt3 hgl; clear hb3 hgl)
     first | (refine hK _ _ ?_; clear hK K) | skip
     refine wpAny_ready (rs := [4]) (by kernel_rfl) (by simp) ?_
     refine AllReady.cons rfl (fun K hK => ?_) AllReady.nil
     refine step_build rfl 185 #[(0, .tmp 24), (1, .tmp 27)] rfl (setA (cntN z n) (.slice (some ⟨g, 0, none⟩) (pas (cntN z n) 15) (pas (cntN z n) 15))) [(0, .agg (talA (cntN z n))), (1, .slice (some ⟨g, 0, none⟩) (pas (cntN z n) 15) (pas (cntN z n) 15))] (by simp [Act.eval]) (built_set (cntN z n) (some ⟨g, 0, none⟩) (pas (cntN z n) 15) (pas (cntN z n) 15)) ?_
     go_simp
     refine hK _ _ ?_
     clear hK K
     refine wpAny_ready (rs := [5]) (by kernel_rfl) (by simp) ?_
     refine AllReady.cons rfl (fun K hK => ?_) AllReady.nil
     refine step_store_row rfl 185 (.tmp 2) (.tmp 28) rfl w.heap.size (setA (cntN z n) (.slice (some ⟨g, 0, none⟩) (pas (cntN z n) 15) (pas (cntN z n) 15))) (by simp [Act.eval]) (by simp [Act.eval]) 185 zeros17 hr3 Tryz.size185 rfl (setA_all _ _ _ _) ?_
     go_simp
     refine hK _ _ ?_
     clear hK K
     refine wpAny_ready (rs := [6]) (by kernel_rfl) (by simp) ?_
     refine AllReady.cons rfl (fun K hK => ?_) AllReady.nil
     go_simp
     refine hK _ _ ?_
     clear hK K
     refine wpAny_done (by kernel_rfl) ?_ _
     have hne := setRow_heap w3 w.heap.size zeros17 (setA (cntN z n) (.slice (some ⟨g, 0, none⟩) (pas (cntN z n) 15) (pas (cntN z n) 15))) 185 (0, 0) hr3
     go_wp2
     refine bodyPost_ret (v := .tuple #[.agg (setA (cntN z n) (.slice (some ⟨g, 0, none⟩) (pas (cntN z n) 15) (pas (cntN z n) 15))), .bool true]) (res_cell_tmp Tryz.results151 _ _ w.heap.size 185 _ (0, 0) _ (.bool true) rfl rfl hne Tryz.underlying185 rfl Tryz.size185) rfl ?_
     rw [HF.out]
     exact ⟨_, rfl, ⟨rfl, setA_all _ _ _ _⟩, fun _ => ⟨g, sy, rfl, Nat.le_of_lt hgl', hrow.of_block (setRow_other w3 w.heap.size g _ (by omega)), hsy⟩, Below.setRow hbb3 (Nat.le_refl _) _⟩
    ·
     go_simp
     go_wp2_with (go_at_call 152; refine (arrange_any (talA (cntN z n)) b off n cap z _ tA hz2 hn288 hin).mono ?_; rintro e w3 ⟨g, sy, rfl, hgl, hrow, hsy, hb3⟩; have hnew3 := (hb3.block w1.heap.size hlt2).trans hnew2d; have hr3 := (hb3.block w.heap.size hlt3).trans hr2d; have hbb3 := hbb2d.trans (hb3.mono hbb2d.size); have hgl' := Nat.lt_of_lt_of_le hlt3 hgl; clear hb3 hgl)
     first | (refine hK _ _ ?_; clear hK K) | skip
     refine wpAny_ready (rs := [0]) (by kernel_rfl) (by simp) ?_
     refine AllReady.cons rfl (fun K hK => ?_) AllReady.nil
     refine step_load_row rfl 156 (.tmp 4) rfl w1.heap.size (by simp [Act.eval]) 156 (talA (cntN z n)) (0, 0) _ hnew3 Tryz.underlying156 rfl Tryz.size156 ?_
     go_simp
     refine hK _ _ ?_
     clear hK K
     refine wpAny_ready (rs := [4]) (by kernel_rfl) (by simp) ?_
     refine AllReady.cons rfl (fun K hK => ?_) AllReady.nil
     refine step_build rfl 185 #[(0, .tmp 24), (1, .tmp 27)] rfl (setA (cntN z n) (.slice (some ⟨g, 0, none⟩) (pas (cntN z n) 15) (pas (cntN z n) 15))) [(0, .agg (talA (cntN z n))), (1, .slice (some ⟨g, 0, none⟩) (pas (cntN z n) 15) (pas (cntN z n) 15))] (by simp [Act.eval]) (built_set (cntN z n) (some ⟨g, 0, none⟩) (pas (cntN z n) 15) (pas (cntN z n) 15)) ?_
     go_simp
     refine hK _ _ ?_
     clear hK K
     refine wpAny_ready (rs := [5]) (by kernel_rfl) (by simp) ?_
     refine AllReady.cons rfl (fun K hK => ?_) AllReady.nil
     refine step_store_row rfl 185 (.tmp 2) (.tmp 28) rfl w.heap.size (setA (cntN z n) (.slice (some ⟨g, 0, none⟩) (pas (cntN z n) 15) (pas (cntN z n) 15))) (by simp [Act.eval]) (by simp [Act.eval]) 185 zeros17 hr3 Tryz.size185 rfl (setA_all _ _ _ _) ?_
     go_simp
     refine hK _ _ ?_
     clear hK K
     refine wpAny_ready (rs := [6]) (by kernel_rfl) (by simp) ?_
     refine AllReady.cons rfl (fun K hK => ?_) AllReady.nil
     go_simp
     refine hK _ _ ?_
     clear hK K
     refine wpAny_done (by kernel_rfl) ?_ _
     have hne := setRow_heap w3 w.heap.size zeros17 (setA (cntN z n) (.slice (some ⟨g, 0, none⟩) (pas (cntN z n) 15) (pas (cntN z n) 15))) 185 (0, 0) hr3
     go_wp2
     refine bodyPost_ret (v := .tuple #[.agg (setA (cntN z n) (.slice (some ⟨g, 0, none⟩) (pas (cntN z n) 15) (pas (cntN z n) 15))), .bool true]) (res_cell_tmp Tryz.results151 _ _ w.heap.size 185 _ (0, 0) _ (.bool true) rfl rfl hne Tryz.underlying185 rfl Tryz.size185) rfl ?_
     rw [HF.out]
     exact ⟨_, rfl, ⟨rfl, setA_all _ _ _ _⟩, fun _ => ⟨g, sy, rfl, Nat.le_of_lt hgl', hrow.of_block (setRow_other w3 w.heap.size g _ (by omega)), hsy⟩, Below.setRow hbb3 (Nat.le_refl _) _⟩
  ·
   have hdk : decide (kr (cntN z n) 15 = 32768) = false := by rw [decide_eq_false_iff_not]; exact hkr
   go_wp2_with (first | (refine wpList_load_row_g rfl 156 (.tmp 4) rfl w1.heap.size rfl 156 (talA (cntN z n)) (0, 0) _ hnewf Tryz.underlying156 rfl hi ?_) | fail)
   refine (few_any (talA (cntN z n)) _ _ tA).mono ?_
   rintro e w2 ⟨rfl, hb2⟩
   have hnew2 : w2.heap[w1.heap.size]? = some (.cells (talA (cntN z n)) 156 (0, 0)) := (hb2.block w1.heap.size hltf).trans hnewf
   have hbb2 : Below w.heap.size w w2 := hbbf.trans (hb2.mono hbbf.size)
   have hr2 : w2.heap[w.heap.size]? = some (.cells zeros17 185 (0, 0)) := (hb2.block w.heap.size (by omega)).trans hrf
   have hlt2' : w1.heap.size < w2.heap.size := Nat.lt_of_lt_of_le hltf hb2.size
   have hkr2 : Hid (kr (cntN z n) 15 ≠ 32768) := hkr
   clear hb2 hnewf hrf hltf hbbf hkr
   cases hfew : fewB (cntN z n)
   ·
    have HF : Hid (spaB z n = false) := by show _ = _; simp [spaB, hkr2.out, hfew]
    have hbz : Below w.heap.size w (w2.setRow w.heap.size zeros17) := Below.setRow hbb2 (Nat.le_refl _) _
    have hne := setRow_heap w2 w.heap.size zeros17 zeros17 185 (0, 0) hr2
    go_upto_region 3 with fail
    go_wp2_with (refine wpList_store_row rfl 185 (.tmp 2) (.tmp 23) rfl w.heap.size zeros17 rfl rfl 185 zeros17 hr2 Tryz.size185 rfl zeros17_all ?_)
    refine bodyPost_ret (v := .tuple #[.agg zeros17, .bool false]) (res_cell_tmp Tryz.results151 _ _ w.heap.size 185 zeros17 (0, 0) _ (.bool false) rfl rfl hne Tryz.underlying185 rfl Tryz.size185) rfl ?_
    rw [HF.out]
    exact ⟨zeros17, rfl, ⟨rfl, zeros17_all⟩, fun h => absurd h (by simp), hbz⟩
   ·
    have HF : Hid (spaB z n = true) := by show _ = _; simp [spaB, HO.out, hfew]
    have hbbf := hbb2
    have hnewf := hnew2
    have hrf := hr2
    have hltf := hlt2'
    clear hbb2 hnew2 hr2 hlt2' hfew
    have hbb2d : Below w.heap.size w w2.drew := hbbf.drew
    have hz2 := hz.later hbb2d
    have hlt2 : w1.heap.size < w2.drew.heap.size := hltf
    have hlt3 : w.heap.size < w2.drew.heap.size := by show w.heap.size < w2.heap.size; omega
    have hnew2d : w2.drew.heap[w1.heap.size]? = some (.cells (talA (cntN z n)) 156 (0, 0)) := hnewf
    have hr2d : w2.drew.heap[w.heap.size]? = some (.cells zeros17 185 (0, 0)) := hrf
    clear hnewf hrf hltf hbbf hi
    go_wp2_with fail
    refine wp_region_any (by kernel_rfl) ?_
    change wpAny _ _ _ _ _ _ _ (World.drew _)
    refine wpAny_take (i := 2) (v := .slice (some ⟨b, off, none⟩) n cap) rfl (by kernel_rfl) (by kernel_rfl) (by kernel_rfl) (fun _ _ _ h => h) (Or.inl ⟨by rfl, ?_⟩) ?_
    · intro w; go_simp
    refine wpAny_ready (rs := [0, 1]) (by kernel_rfl) (by simp) ?_
    refine AllReady.cons rfl (fun K hK => ?_) (AllReady.cons rfl (fun K hK => ?_) AllReady.nil)
    ·
     refine step_load_row rfl 156 (.tmp 4) rfl w1.heap.size (by simp [Act.eval, Act.put]) 156 (talA (cntN z n)) (0, 0) _ hnew2d Tryz.underlying156 rfl Tryz.size156 ?_
     go_simp
     refine hK _ _ ?_
     clear hK K
     refine wpAny_ready (rs := [1]) (by kernel_rfl) (by simp) ?_
     refine AllReady.cons rfl (fun K hK => ?_) AllReady.nil
     refine step_load_row rfl 156 (.tmp 4) rfl w1.heap.size (by simp [Act.eval]) 156 (talA (cntN z n)) (0, 0) _ hnew2d Tryz.underlying156 rfl Tryz.size156 ?_
     go_simp
     refine hK _ _ ?_
     clear hK K
     refine wpAny_ready (rs := [3]) (by kernel_rfl) (by simp) ?_
     refine AllReady.cons rfl (fun K hK => ?_) AllReady.nil
     go_simp
     go_wp2_with (go_at_call 152; refine (arrange_any (talA (cntN z n)) b off n cap z _ tA hz2 hn288 hin).mono ?_; rintro e w3 ⟨g, sy, rfl, hgl, hrow, hsy, hb3⟩; have hnew3 := (hb3.block w1.heap.size hlt2).trans hnew2d; have hr3 := (hb3.block w.heap.size hlt3).trans hr2d; have hbb3 := hbb2d.trans (hb3.mono hbb2d.size); have hgl' := Nat.lt_of_lt_of_le hlt3 hgl; clear hb3 hgl)
     first | (refine hK _ _ ?_; clear hK K) | skip
     refine wpAny_ready (rs := [4]) (by kernel_rfl) (by simp) ?_
     refine AllReady.cons rfl (fun K hK => ?_) AllReady.nil
     refine step_build rfl 185 #[(0, .tmp 24), (1, .tmp 27)] rfl (setA (cntN z n) (.slice (some ⟨g, 0, none⟩) (pas (cntN z n) 15) (pas (cntN z n) 15))) [(0, .agg (talA (cntN z n))), (1, .slice (some ⟨g, 0, none⟩) (pas (cntN z n) 15) (pas (cntN z n) 15))] (by simp [Act.eval]) (built_set (cntN z n) (some ⟨g, 0, none⟩) (pas (cntN z n) 15) (pas (cntN z n) 15)) ?_
     go_simp
     refine hK _ _ ?_
     clear hK K
     refine wpAny_ready (rs := [5]) (by kernel_rfl) (by simp) ?_
     refine AllReady.cons rfl (fun K hK => ?_) AllReady.nil
     refine step_store_row rfl 185 (.tmp 2) (.tmp 28) rfl w.heap.size (setA (cntN z n) (.slice (some ⟨g, 0, none⟩) (pas (cntN z n) 15) (pas (cntN z n) 15))) (by simp [Act.eval]) (by simp [Act.eval]) 185 zeros17 hr3 Tryz.size185 rfl (setA_all _ _ _ _) ?_
     go_simp
     refine hK _ _ ?_
     clear hK K
     refine wpAny_ready (rs := [6]) (by kernel_rfl) (by simp) ?_
     refine AllReady.cons rfl (fun K hK => ?_) AllReady.nil
     go_simp
     refine hK _ _ ?_
     clear hK K
     refine wpAny_done (by kernel_rfl) ?_ _
     have hne := setRow_heap w3 w.heap.size zeros17 (setA (cntN z n) (.slice (some ⟨g, 0, none⟩) (pas (cntN z n) 15) (pas (cntN z n) 15))) 185 (0, 0) hr3
     go_wp2
     refine bodyPost_ret (v := .tuple #[.agg (setA (cntN z n) (.slice (some ⟨g, 0, none⟩) (pas (cntN z n) 15) (pas (cntN z n) 15))), .bool true]) (res_cell_tmp Tryz.results151 _ _ w.heap.size 185 _ (0, 0) _ (.bool true) rfl rfl hne Tryz.underlying185 rfl Tryz.size185) rfl ?_
     rw [HF.out]
     exact ⟨_, rfl, ⟨rfl, setA_all _ _ _ _⟩, fun _ => ⟨g, sy, rfl, Nat.le_of_lt hgl', hrow.of_block (setRow_other w3 w.heap.size g _ (by omega)), hsy⟩, Below.setRow hbb3 (Nat.le_refl _) _⟩
    ·
     refine step_load_row rfl 156 (.tmp 4) rfl w1.heap.size (by simp [Act.eval, Act.put]) 156 (talA (cntN z n)) (0, 0) _ hnew2d Tryz.underlying156 rfl Tryz.size156 ?_
     go_simp
     refine hK _ _ ?_
     clear hK K
     refine wpAny_ready (rs := [0, 3]) (by kernel_rfl) (by simp) ?_
     refine AllReady.cons rfl (fun K hK => ?_) (AllReady.cons rfl (fun K hK => ?_) AllReady.nil)
     ·
      refine step_load_row rfl 156 (.tmp 4) rfl w1.heap.size (by simp [Act.eval]) 156 (talA (cntN z n)) (0, 0) _ hnew2d Tryz.underlying156 rfl Tryz.size156 ?_
      go_simp
      refine hK _ _ ?_
      clear hK K
      refine wpAny_ready (rs := [3]) (by kernel_rfl) (by simp) ?_
      refine AllReady.cons rfl (fun K hK => ?_) AllReady.nil
      go_simp
      go_wp2_with (go_at_call 152; refine (arrange_any (talA (cntN z n)) b off n cap z _ tA hz2 hn288 hin).mono ?_; rintro e w3 ⟨g, sy, rfl, hgl, hrow, hsy, hb3⟩; have hnew3 := (hb3.block w1.heap.size hlt2).trans hnew2d; have hr3 := (hb3.block w.heap.size hlt3).trans hr2d; have hbb3 := hbb2d.trans (hb3.mono hbb2d.size); have hgl' := Nat.lt_of_lt_of_le hlt3 hgl; clear hb3 hgl)
      first | (refine hK _ _ ?_; clear hK K) | skip
      refine wpAny_ready (rs := [4]) (by kernel_rfl) (by simp) ?_
      refine AllReady.cons rfl (fun K hK => ?_) AllReady.nil
      refine step_build rfl 185 #[(0, .tmp 24), (1, .tmp 27)] rfl (setA (cntN z n) (.slice (some ⟨g, 0, none⟩) (pas (cntN z n) 15) (pas (cntN z n) 15))) [(0, .agg (talA (cntN z n))), (1, .slice (some ⟨g, 0, none⟩) (pas (cntN z n) 15) (pas (cntN z n) 15))] (by simp [Act.eval]) (built_set (cntN z n) (some ⟨g, 0, none⟩) (pas (cntN z n) 15) (pas (cntN z n) 15)) ?_
      go_simp
      refine hK _ _ ?_
      clear hK K
      refine wpAny_ready (rs := [5]) (by kernel_rfl) (by simp) ?_
      refine AllReady.cons rfl (fun K hK => ?_) AllReady.nil
      refine step_store_row rfl 185 (.tmp 2) (.tmp 28) rfl w.heap.size (setA (cntN z n) (.slice (some ⟨g, 0, none⟩) (pas (cntN z n) 15) (pas (cntN z n) 15))) (by simp [Act.eval]) (by simp [Act.eval]) 185 zeros17 hr3 Tryz.size185 rfl (setA_all _ _ _ _) ?_
      go_simp
      refine hK _ _ ?_
      clear hK K
      refine wpAny_ready (rs := [6]) (by kernel_rfl) (by simp) ?_
      refine AllReady.cons rfl (fun K hK => ?_) AllReady.nil
      go_simp
      refine hK _ _ ?_
      clear hK K
      refine wpAny_done (by kernel_rfl) ?_ _
      have hne := setRow_heap w3 w.heap.size zeros17 (setA (cntN z n) (.slice (some ⟨g, 0, none⟩) (pas (cntN z n) 15) (pas (cntN z n) 15))) 185 (0, 0) hr3
      go_wp2
      refine bodyPost_ret (v := .tuple #[.agg (setA (cntN z n) (.slice (some ⟨g, 0, none⟩) (pas (cntN z n) 15) (pas (cntN z n) 15))), .bool true]) (res_cell_tmp Tryz.results151 _ _ w.heap.size 185 _ (0, 0) _ (.bool true) rfl rfl hne Tryz.underlying185 rfl Tryz.size185) rfl ?_
      rw [HF.out]
      exact ⟨_, rfl, ⟨rfl, setA_all _ _ _ _⟩, fun _ => ⟨g, sy, rfl, Nat.le_of_lt hgl', hrow.of_block (setRow_other w3 w.heap.size g _ (by omega)), hsy⟩, Below.setRow hbb3 (Nat.le_refl _) _⟩
     ·
      go_simp
      go_wp2_with (go_at_call 152; refine (arrange_any (talA (cntN z n)) b off n cap z _ tA hz2 hn288 hin).mono ?_; rintro e w3 ⟨g, sy, rfl, hgl, hrow, hsy, hb3⟩; have hnew3 := (hb3.block w1.heap.size hlt2).trans hnew2d; have hr3 := (hb3.block w.heap.size hlt3).trans hr2d; have hbb3 := hbb2d.trans (hb3.mono hbb2d.size); have hgl' := Nat.lt_of_lt_of_le hlt3 hgl; clear hb3 hgl)
      first | (refine hK _ _ ?_; clear hK K) | skip
      refine wpAny_ready (rs := [0]) (by kernel_rfl) (by simp) ?_
      refine AllReady.cons rfl (fun K hK => ?_) AllReady.nil
      refine step_load_row rfl 156 (.tmp 4) rfl w1.heap.size (by simp [Act.eval]) 156 (talA (cntN z n)) (0, 0) _ hnew3 Tryz.underlying156 rfl Tryz.size156 ?_
      go_simp
      refine hK _ _ ?_
      clear hK K
      refine wpAny_ready (rs := [4]) (by kernel_rfl) (by simp) ?_
      refine AllReady.cons rfl (fun K hK => ?_) AllReady.nil
      refine step_build rfl 185 #[(0, .tmp 24), (1, .tmp 27)] rfl (setA (cntN z n) (.slice (some ⟨g, 0, none⟩) (pas (cntN z n) 15) (pas (cntN z n) 15))) [(0, .agg (talA (cntN z n))), (1, .slice (some ⟨g, 0, none⟩) (pas (cntN z n) 15) (pas (cntN z n) 15))] (by simp [Act.eval]) (built_set (cntN z n) (some ⟨g, 0, none⟩) (pas (cntN z n) 15) (pas (cntN z n) 15)) ?_
      go_simp
      refine hK _ _ ?_
      clear hK K
      refine wpAny_ready (rs := [5]) (by kernel_rfl) (by simp) ?_
      refine AllReady.cons rfl (fun K hK => ?_) AllReady.nil
      refine step_store_row rfl 185 (.tmp 2) (.tmp 28) rfl w.heap.size (setA (cntN z n) (.slice (some ⟨g, 0, none⟩) (pas (cntN z n) 15) (pas (cntN z n) 15))) (by simp [Act.eval]) (by simp [Act.eval]) 185 zeros17 hr3 Tryz.size185 rfl (setA_all _ _ _ _) ?_
      go_simp
      refine hK _ _ ?_
      clear hK K
      refine wpAny_ready (rs := [6]) (by kernel_rfl) (by simp) ?_
      refine AllReady.cons rfl (fun K hK => ?_) AllReady.nil
      go_simp
      refine hK _ _ ?_
      clear hK K
      refine wpAny_done (by kernel_rfl) ?_ _
      have hne := setRow_heap w3 w.heap.size zeros17 (setA (cntN z n) (.slice (some ⟨g, 0, none⟩) (pas (cntN z n) 15) (pas (cntN z n) 15))) 185 (0, 0) hr3
      go_wp2
      refine bodyPost_ret (v := .tuple #[.agg (setA (cntN z n) (.slice (some ⟨g, 0, none⟩) (pas (cntN z n) 15) (pas (cntN z n) 15))), .bool true]) (res_cell_tmp Tryz.results151 _ _ w.heap.size 185 _ (0, 0) _ (.bool true) rfl rfl hne Tryz.underlying185 rfl Tryz.size185) rfl ?_
      rw [HF.out]
      exact ⟨_, rfl, ⟨rfl, setA_all _ _ _ _⟩, fun _ => ⟨g, sy, rfl, Nat.le_of_lt hgl', hrow.of_block (setRow_other w3 w.heap.size g _ (by omega)), hsy⟩, Below.setRow hbb3 (Nat.le_refl _) _⟩
end Go.Proofs.YtecddphahiadlaaGreatDoor
