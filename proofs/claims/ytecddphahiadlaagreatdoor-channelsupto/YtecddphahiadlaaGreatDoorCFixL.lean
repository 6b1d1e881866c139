import Derived.Test.YtecddphahiadlaaGreatDoorCFixed
import Derived.Laws.CopyOwn
import Derived.Deep.RegionLaw
import Derived.Lib.AppendZerosOnto
/- The library's Repeat, at one number; the program's times. -/
namespace Go.Proofs.YtecddphahiadlaaGreatDoor
open Go.RowKit
/-- m times the number, and noughts behind. -/
def repL (v : Int) (N m : Nat) : List Value := List.replicate m (.int .i64 v) ++ List.replicate (N - m) (.int .i64 0)
theorem repL_length (v : Int) {N m : Nat} (h : m ≤ N) : (repL v N m).length = N := by unfold repL; simp; omega
theorem repL_splice (v : Int) {N m k : Nat} (h : m + k ≤ N) : splice (repL v N m) m (List.replicate k (.int .i64 v)) = repL v N (m + k) := by
 unfold splice repL
 rw [List.take_left' (by simp), List.length_replicate, List.drop_append, List.drop_replicate, List.drop_replicate, List.length_replicate]
 rw [← List.append_assoc, List.replicate_append_replicate]
 have e1 : m - (m + k) = 0 := by omega
 have e2 : N - m - (m + k - m) = N - (m + k) := by omega
 rw [e1, e2]
 rfl
theorem repL_at {v : Int} {N m j : Nat} (h : j < m) : (repL v N m)[j]? = some (.int .i64 v) := by
 unfold repL
 rw [List.getElem?_append_left (by simpa using h), List.getElem?_replicate, if_pos h]
theorem made_repL {w : World} {g N : Nat} (v : Int) (h : w.rowIs g 3 N (fun _ => .int .i64 0)) : w.heap[g]? = some (.cells (repL v N 0).toArray 3 (0, 0)) := by
 obtain ⟨A, hb, hs, ha⟩ := h
 have e : A = (repL v N 0).toArray := by
  apply Array.ext_getElem?
  intro i
  by_cases hi : i < N
  ·
   rw [ha i hi]
   simp [repL, hi]
  · rw [Array.getElem?_eq_none (by omega), Array.getElem?_eq_none (by simp [repL]; omega)]
 rw [hb, e]
structure RepR (w wr : World) (v : Int) (N g m : Nat) : Prop where
 below : Below w.heap.size w wr
 ge : w.heap.size ≤ g
 le : m ≤ N
 row : wr.heap[g]? = some (.cells (repL v N m).toArray 3 (0, 0))
theorem wrap_u (n : Nat) (h : n ≤ 4294967295) : IntKind.u64.wrap (n : Int) = (n : Int) := by
 rw [IntKind.wrap_u64]
 omega
theorem mask_n (n : Nat) (h : n ≤ 4294967295) : bits BinOp.and IntKind.u64 (n : Int) 4294967295 = (n : Int) := by
 have h1 : (BitVec.ofInt 64 (n : Int)).toNat = n := by
  rw [BitVec.ofInt_natCast, BitVec.toNat_ofNat]; exact Nat.mod_eq_of_lt (by omega)
 show IntKind.u64.wrap ((BitVec.ofInt 64 (n : Int) &&& BitVec.ofInt 64 4294967295).toNat : Int) = _
 have h2 : (BitVec.ofInt 64 4294967295).toNat = 4294967295 := by decide
 have h3 : n &&& 4294967295 = n % 4294967296 := Nat.and_two_pow_sub_one_eq_mod n 32
 rw [BitVec.toNat_and, h1, h2, h3, Nat.mod_eq_of_lt (by omega)]
 exact wrap_u n h
set_option maxHeartbeats 400000 in
theorem mul_any (n : Nat) (w : World) (hn : n ≤ 1000) :
 Calls Tryz.prog 133 #[.int .u64 1, .int .u64 (n : Int)] w fun e w' => e = .returned (.tuple #[.int .u64 0, .int .u64 (n : Int)]) ∧ w' = w := by
 have hmask := mask_n n (by omega)
 have h1m : bits BinOp.and IntKind.u64 1 4294967295 = 1 := by decide
 have h0m : bits BinOp.and IntKind.u64 0 4294967295 = 0 := by decide
 have hw := wrap_u n (by omega)
 have hw0 : IntKind.u64.wrap 0 = 0 := by decide
 have hdiv : (n : Int) / 4294967296 = 0 := by omega
 go_enter Tryz.func133, Tryz.ntmps133
 go_wp2
 go_ret2
 exact ⟨rfl, rfl⟩
set_option maxRecDepth 4000 in
set_option maxHeartbeats 1000000 in
theorem repeat_any (gx c n : Nat) (v : Int) (w : World) (hx : w.cell? ⟨gx, 0, none⟩ = some (.int .i64 v)) (hgx : gx < w.heap.size) (hn : n ≤ 1000) (h1 : 1 ≤ n) :
 Calls Tryz.prog 118 #[.slice (some ⟨gx, 0, none⟩) 1 c, .int .i64 (n : Int)] w fun e w' => ∃ g, e = .returned (.slice (some ⟨g, 0, none⟩) n n) ∧ RepR w w' v n g n := by
 have hmk := run_make_row' (P := Tryz.prog) 61 3 (.int .i64 0) 8 Tryz.underlying61 Tryz.info3 rfl .i64 .i64 n (by omega) (by omega)
 have hrow0 := made_repL v (World.rowIs_made w (.int .i64 0) n 3)
 have hb0 : Below w.heap.size w (w.alloc (.cells (madeCells #[.int .i64 0] n) 3)) := (Below.refl _ _).alloc (Nat.le_refl _) _
 have hx0 : (w.alloc (.cells (madeCells #[.int .i64 0] n) 3)).cell? ⟨gx, 0, none⟩ = some (.int .i64 v) := (hb0.cell (p := ⟨gx, 0, none⟩) hgx).trans hx
 have hsz : (Tryz.prog.info? 3).map (·.size) = some 1 := by kernel_rfl
 go_enter Tryz.func118, Tryz.ntmps118
 go_wp2_with fail
 refine (mul_any n _ hn).mono ?_
 rintro e w1 ⟨rfl, rfl⟩
 obtain ⟨g, hg⟩ : ∃ g, g = w1.heap.size := ⟨_, rfl⟩
 have HG : Hid (g = w1.heap.size) := hg
 go_wp2_with (refine wpList_copy_splice rfl (.tmp 31) (.tmp 32) 61 61 rfl 3 Tryz.underlying61 hsz (some ⟨w1.heap.size, 0, none⟩) (some ⟨gx, 0, none⟩) n n 1 c rfl rfl w1.heap.size 0 (repL v n 0) 3 hrow0 [.int .i64 v] (by show 1 = Nat.min 1 n; exact (Nat.min_eq_left h1).symm) (fun _ => ⟨rfl, ⟨gx, 0, none⟩, rfl, fun j u hj => by match j, hj with | 0, hj => (simp at hj; subst hj; rw [addr_add0]; exact hx0)⟩) (by rw [repL_length v (Nat.zero_le _)]; simpa using h1) (by simp [Value.oneCell']) w1.heap.size w1 hb0 (Nat.le_refl _) ?_; intro w2 hg2 hb2)
 have R0 : RepR w1 w2 v n g 1 := ⟨hb2, by omega, h1, by rw [hg]; have e := hg2.out; rw [show ([Value.int .i64 v] : List Value) = List.replicate 1 (.int .i64 v) from rfl, repL_splice v (by omega)] at e; exact e⟩
 rw [← hg]
 clear hg hg2 hb2 hrow0 hb0 hx0 hmk hx
 go_loopw [8] (fun k wr => ∃ m : Nat, 1 ≤ m ∧ k = .int .i64 (m : Nat) ∧ RepR w1 wr v n g m) (fun k _ => n - (intOf k).toNat)
 case atStart => exact ⟨1, by omega, rfl, R0⟩
 case round =>
  obtain ⟨m, hm1, rfl, hrel⟩ := hrel
  clear R0
  have hmn := hrel.le
  by_cases hlt : m < n
  ·
   have hltI : (m : Int) < (n : Int) := by omega
   obtain ⟨q, hq⟩ : ∃ q, q = Nat.min m (n - m) := ⟨_, rfl⟩
   have hq1 : 1 ≤ q := by rw [hq]; exact Nat.le_min.2 ⟨hm1, by omega⟩
   have hqA : q ≤ m := by rw [hq]; exact Nat.min_le_left _ _
   have hqB : q ≤ n - m := by rw [hq]; exact Nat.min_le_right _ _
   have hq2 : m + q ≤ n := by omega
   have HQ : Hid (q = Nat.min m (n - m)) := hq
   clear hq
   have hwr : IntKind.i64.wrap ((m : Int) + (q : Int)) = (m : Int) + (q : Int) := by rw [IntKind.wrap_i64]; omega
   have hrd : wr.drew.heap[g]? = some (.cells (repL v n m).toArray 3 (0, 0)) := hrel.row
   have hbd : Below w1.heap.size w1 wr.drew := hrel.below.drew
   have HGE : Hid (_) := hrel.ge
   go_wp2_with fail
   go_region_law (
    refine step_copy_splice rfl (.tmp 41) (.tmp 44) 61 61 rfl 3 Tryz.underlying61 hsz (some ⟨g, m, none⟩) (some ⟨g, 0, none⟩) (n - m) (n - m) m n (by simp [Act.eval, Act.put]; omega) (by simp [Act.eval, Act.put]) g m (repL v n m) 3 hrd (List.replicate q (.int .i64 v)) (by rw [List.length_replicate]; exact HQ.out) (fun _ => ⟨rfl, ⟨g, 0, none⟩, rfl, fun j u hj => by
     rw [List.getElem?_replicate] at hj
     split at hj
     ·
      rename_i hjq
      simp at hj
      subst hj
      have hjm : j < m := by omega
      rw [addr_add0]
      have e := repL_at (v := v) (N := n) hjm
      simp [World.cell?, hrd]
      simpa using e
     · simp at hj⟩) (by rw [List.length_replicate, repL_length v hmn]; exact hq2) (by intro u hu; rw [List.eq_of_mem_replicate hu]; rfl) w1.heap.size w1 hbd HGE.out ?_
    intro w4 hg4 hb4)
   all_goals
    have R : RepR w1 w4 v n g (m + q) := ⟨hb4, HGE.out, hq2, by have e := hg4.out; rw [repL_splice v hq2] at e; exact e⟩
    clear hg4 hb4 hrd hbd
    go_wp2
    go_roundw
    case rel => exact ⟨m + q, by omega, by simp, R⟩
    case measure => simp [intOf]; omega
  ·
   obtain rfl : m = n := by omega
   go_wp2
   go_ret
   exact ⟨g, rfl, hrel⟩
/- The program's times; the library's Grow and Concat of lists of numbers. -/
theorem RepR.own {w w' : World} {v : Int} {n g : Nat} (h : RepR w w' v n g n) (hn : n ≤ 1000) : OwnI w' w.heap.size g n n (fun _ => v) := by
 refine ⟨?_, Or.inr ⟨g, n, _, rfl, h.ge, h.row, Nat.le_refl _, by unfold maxLen; omega, ?_, ?_⟩⟩
 · rw [intsOf_length]; omega
 · simp [repL]
 ·
  unfold repL intsOf
  simp only [Nat.sub_self, List.replicate_zero, List.append_nil, Nat.mul_one]
  rw [List.take_of_length_le (by simp)]
  apply List.ext_getElem?
  intro i
  simp [List.getElem?_replicate]
  by_cases hi : i < n
  · simp [hi]
  · simp [hi]
set_option maxHeartbeats 400000 in
theorem times_any (n : Nat) (v : Int) (w : World) (hn : n ≤ 1000) (h1 : 1 ≤ n) :
 Calls Tryz.prog 100 #[.int .i64 (n : Int), .int .i64 v] w fun e w' => ∃ g, e = .returned (.slice (some ⟨g, 0, none⟩) n n) ∧ OwnI w' w.heap.size g n n (fun _ => v) ∧ Below w.heap.size w w' := by
 have hx : (w.alloc (.cells #[.int .i64 v] 3)).cell? ⟨w.heap.size, 0, none⟩ = some (.int .i64 v) := by
  have e := World.rowIs_alloc w #[.int .i64 v] 3 (fun _ => .int .i64 v) (fun i hi => by match i, hi with | 0, _ => rfl)
  exact e.cell (i := 0) (by simp)
 go_enter Tryz.func100, Tryz.ntmps100
 go_wp2_with fail
 refine (repeat_any w.heap.size 1 n v _ hx (by simp) hn h1).mono ?_
 rintro e w2 ⟨g, rfl, hr⟩
 have hs := hr.below.size
 have hb : Below w.heap.size w w2 := ((Below.refl _ _).alloc (Nat.le_refl _) _).trans (hr.below.mono (by simp))
 have ho := hr.own hn
 have ho2 : OwnI w2 w.heap.size g n n (fun _ => v) := by
  obtain ⟨q1, q2⟩ := ho.own
  refine ⟨q1, ?_⟩
  rcases q2 with ⟨q2, _⟩ | ⟨g', cap', cur, hv, hbb, r⟩
  · exact absurd q2 (by simp)
  · exact Or.inr ⟨g', cap', cur, hv, Nat.le_trans (by simp) hbb, r⟩
 clear hr ho hs
 go_wp2
 go_ret
 exact ⟨g, rfl, ho2, hb⟩
theorem zeroCells_one (v : Value) (n : Nat) : (Builtin.zeroCells #[v] n).size = n := by
 unfold Builtin.zeroCells
 simp
set_option maxRecDepth 4000 in
set_option maxHeartbeats 400000 in
theorem grow_any (n : Nat) (w : World) (hn : n ≤ 1000) (h1 : 1 ≤ n) :
 Calls Tryz.prog 117 #[.slice none 0 0, .int .i64 (n : Int)] w fun e w' => ∃ cap, e = .returned (.slice (some ⟨w.heap.size, 0, none⟩) 0 cap) ∧ n ≤ cap ∧ w'.ownsRow w.heap.size 3 1 (.slice (some ⟨w.heap.size, 0, none⟩) 0 cap) 0 [] ∧ Below w.heap.size w w' := by
 obtain ⟨i0, hi0, hz0, hs0, hby⟩ := info_parts Tryz.info3
 have hcap := grownCap_ge w n 0 3
 have hcapm := grownCap_le_maxLen w n 0 3 (by unfold maxLen; omega)
 have hr : ∀ ty, _ := fun ty => Lib.run_append_nil_zeros (P := Tryz.prog) w 61 3 ty 3 i0 (.int .i64 0) .i64 .i64 Tryz.underlying61 Tryz.underlying3 hi0 hz0 n (by omega) (by omega) (by omega) (by rw [hby]; omega)
 go_enter Tryz.func117, Tryz.ntmps117
 go_wp2_with (at_builtin; refine Lib.wpList_append_run _ rfl _ _ _ _ rfl _ _ rfl rfl _ _ (hr _) ?_)
 go_ret
 refine ⟨grownCap w n 0 3, rfl, hcap, ⟨rfl, Or.inr ⟨w.heap.size, grownCap w n 0 3, _, rfl, Nat.le_refl _, heap_alloc_last w _, Nat.zero_le _, hcapm, ?_, by simp⟩⟩, ((Below.refl _ _).alloc (Nat.le_refl _) _).drew⟩
 rw [Array.size_append, zeroCells_one, zeroCells_one]
 omega
/-- Where list i begins among all. -/
def offN (n : Nat → Nat) : Nat → Nat
 | 0 => 0
 | i + 1 => offN n i + n i
theorem offN_mono (n : Nat → Nat) {a b : Nat} (h : a ≤ b) : offN n a ≤ offN n b := by
 induction b with
 | zero =>
  obtain rfl : a = 0 := by omega
  exact Nat.le_refl _
 |
  succ b ih =>
  by_cases e : a = b + 1
  · rw [e]; exact Nat.le_refl _
  ·
   have := ih (by omega)
   simp only [offN]; omega
theorem intsOf_add (z : Nat → Int) (a b : Nat) : intsOf z (a + b) = intsOf z a ++ intsOf (fun j => z (a + j)) b := by
 induction b with
 | zero => simp [intsOf]
 |
  succ b ih =>
  rw [← Nat.add_assoc, intsOf_succ, ih, intsOf_succ, List.append_assoc]
structure CatR (w wr : World) (g cap : Nat) (z : Nat → Int) (N : Nat) : Prop where
 below : Below w.heap.size w wr
 own : wr.ownsRow w.heap.size 3 1 (.slice (some ⟨g, 0, none⟩) N cap) N (intsOf z N)
set_option maxRecDepth 4000 in
set_option maxHeartbeats 1000000 in
theorem concat_any (b m c : Nat) (n gb cp : Nat → Nat) (z : Nat → Int) (w : World) (hb : w.rowIs b 61 m (fun i => .slice (some ⟨gb i, 0, none⟩) (n i) (cp i))) (hm : m ≤ 8)
 (hi : ∀ i, i < m → IntsAt w (gb i) 0 (n i) (fun j => z (offN n i + j))) (hN : offN n m ≤ 1000) (h1 : 1 ≤ offN n m) :
 Calls Tryz.prog 99 #[.slice (some ⟨b, 0, none⟩) m c] w fun e w' => ∃ g cap, e = .returned (.slice (some ⟨g, 0, none⟩) (offN n m) cap) ∧ OwnI w' w.heap.size g cap (offN n m) z ∧ Below w.heap.size w w' := by
 obtain ⟨i0, hi0, hz0, hs0, hby⟩ := info_parts Tryz.info3
 go_enter Tryz.func99, Tryz.ntmps99
 go_wp2_with fail
 go_loop [3, 5, 11] (fun s _ i => ∃ k : Nat, k ≤ m ∧ i = .int .i64 (k : Nat) ∧ s = .int .i64 (offN n k : Nat)) (fun _ _ i => m - (intOf i).toNat)
 case atStart => exact ⟨0, by omega, rfl, rfl⟩
 case round =>
  obtain ⟨k, hk, rfl, rfl⟩ := hrel
  by_cases hlt : k < m
  ·
   have ck := hb.cell hlt
   have ik : (k : Int) < (m : Int) := by omega
   have ho := offN_mono n (show k + 1 ≤ m from hlt)
   have HO : Hid (offN n (k + 1) = offN n k + n k) := rfl
   rw [HO.out] at ho
   have hneg : decide ((offN n k : Int) + (n k : Int) < 0) = false := by rw [decide_eq_false_iff_not]; omega
   go_wp2
   go_round
   case rel => exact ⟨k + 1, by omega, by go_num, by rw [HO.out]; go_num⟩
   case measure => simp [intOf]; omega
  ·
   obtain rfl : k = m := by omega
   obtain ⟨N, hNN⟩ : ∃ N, N = offN n k := ⟨_, rfl⟩
   rw [← hNN] at hN h1 ⊢
   have HN : Hid (N = offN n k) := hNN
   clear hNN hlt hk
   go_wp2_with fail
   refine (grow_any N _ hN h1).mono ?_
   rintro e w1 ⟨cap, rfl, hcap, hown, hb1⟩
   obtain ⟨g, hg⟩ : ∃ g, g = w.heap.size := ⟨_, rfl⟩
   have R0 : CatR w w1 g cap z 0 := ⟨hb1, by rw [hg]; exact hown⟩
   rw [← hg]
   clear hown hb1 hg
   go_wp2_with fail
   go_loopw [6, 8, 27] (fun v _ i wr => ∃ q : Nat, q ≤ k ∧ i = .int .i64 (q : Nat) ∧ v = .slice (some ⟨g, 0, none⟩) (offN n q) cap ∧ CatR w wr g cap z (offN n q)) (fun _ _ i _ => k - (intOf i).toNat)
   case atStart => exact ⟨0, by omega, rfl, rfl, R0⟩
   case round =>
    obtain ⟨q, hq, rfl, rfl, hrel⟩ := hrel
    clear R0
    by_cases hlt : q < k
    ·
     have ck := (hb.of_block (hrel.below.block b hb.lt)).cell hlt
     have ik : (q : Int) < (k : Int) := by omega
     have ho := offN_mono n (show q + 1 ≤ k from hlt)
     have HO : Hid (offN n (q + 1) = offN n q + n q) := rfl
     rw [HO.out, ← HN.out] at ho
     have hiq := (hi q hlt).later hrel.below
     have hownq := hrel.own
     have HB : Hid (_) := hrel.below
     obtain ⟨O, hO⟩ : ∃ O, O = offN n q := ⟨_, rfl⟩
     rw [← hO] at ho hiq hownq HO ⊢
     obtain ⟨nq', hnq⟩ : ∃ nq', nq' = n q := ⟨_, rfl⟩
     rw [← hnq] at ck ho hiq HO
     have hcells : ∀ j u, (intsOf (fun j => z (O + j)) nq')[j]? = some u → wr.cell? ((⟨gb q, 0, none⟩ : Addr).add j) = some u := by
      intro j u hj
      have hjl : j < nq' := by
       obtain ⟨hh, _⟩ := List.getElem?_eq_some_iff.1 hj
       rw [intsOf_length] at hh; exact hh
      rw [intsOf_at _ hjl] at hj
      have e := hiq.cell j hjl
      rw [addr_add0, ← Option.some.inj hj]
      rw [Nat.zero_add] at e
      exact e
     have hone : ∀ u ∈ intsOf (fun j => z (O + j)) nq', u.oneCell' = true := by
      intro u hu
      obtain ⟨_, _, rfl⟩ := List.mem_map.1 hu
      rfl
     clear hrel hO hnq
     go_wp2_with (first | (at_builtin; refine wpList_append_fits wr rfl (.tmp 31) (.tmp 32) 61 rfl w.heap.size 3 i0 1 Tryz.underlying61 hi0 hs0 g O cap _ rfl hownq ⟨gb q, 0, none⟩ nq' (cp q) (intsOf (fun j => z (O + j)) nq') rfl (by rw [intsOf_length]; omega) hcells hone (by omega) ?_) | fail)
     intro w3 ho3 hg3
     have R : CatR w w3 g cap z (offN n (q + 1)) := by
      rw [HO.out]
      refine ⟨?_, by rw [intsOf_add]; exact ho3⟩
      have hgw : w.heap.size ≤ g := by
       obtain ⟨_, q2⟩ := ho3
       rcases q2 with ⟨q2, _⟩ | ⟨g', cap', cur, hv, hbb, _⟩
       · exact absurd q2 (by simp)
       ·
        have : g = g' := by simp at hv; exact hv.1
        omega
      exact HB.out.trans ⟨hg3.os, hg3.tape, hg3.output, hg3.size, fun j hj => hg3.block j (Nat.lt_of_lt_of_le hj HB.out.size) (by intro e; have := Option.some.inj e; omega)⟩
     clear ho3 hg3 hownq
     go_wp2
     go_roundw
     case rel => exact ⟨q + 1, by omega, by go_num, by rw [HO.out], R⟩
     case measure => simp [intOf]; omega
    ·
     obtain rfl : q = k := by omega
     have P : OwnI wr w.heap.size g cap (offN n q) z := ⟨hrel.own⟩
     have HB : Hid (_) := hrel.below
     clear hrel
     go_wp2
     go_ret
     exact ⟨g, cap, rfl, P, HB.out⟩
/- The lengths of kind 1, as the program lists them. -/
theorem fixZ_one (i : Nat) : 1 ≤ fixZ i ∧ fixZ i ≤ 15 := by
 unfold fixZ
 split
 · omega
 · split <;> omega
theorem fix_fit : fitB fixZ 288 = true := by
 rw [fit_of_ks (by omega) (fun i _ => fixZ_one i)]
 decide +kernel
theorem fiv_fit : fitB fivZ 32 = true := by
 rw [fit_of_ks (by omega) (fun i _ => by unfold fivZ; omega)]
 decide +kernel
def fourN (i : Nat) : Nat := if i = 0 then 144 else if i = 1 then 112 else if i = 2 then 24 else 8
theorem four_off : offN fourN 0 = 0 ∧ offN fourN 1 = 144 ∧ offN fourN 2 = 256 ∧ offN fourN 3 = 280 ∧ offN fourN 4 = 288 := by decide
/-- The four lists, one behind the other, are the lengths of kind 1. -/
theorem four_ints {w : World} {g0 g1 g2 g3 : Nat} (h0 : IntsAt w g0 0 144 (fun _ => 8)) (h1 : IntsAt w g1 0 112 (fun _ => 9)) (h2 : IntsAt w g2 0 24 (fun _ => 7)) (h3 : IntsAt w g3 0 8 (fun _ => 8)) :
 ∀ i, i < 4 → IntsAt w (if i = 0 then g0 else if i = 1 then g1 else if i = 2 then g2 else g3) 0 (fourN i) (fun j => fixZ (offN fourN i + j)) := by
 obtain ⟨o0, o1, o2, o3, _⟩ := four_off
 intro i hi
 rcases (by omega : i = 0 ∨ i = 1 ∨ i = 2 ∨ i = 3) with e | e | e | e
 ·
  subst e
  refine ⟨fun j hj => ?_, h0.lt⟩
  have : j < 144 := hj
  rw [o0]
  have := h0.cell j this
  show w.cell? ⟨g0, 0 + j, none⟩ = some (.int .i64 (fixZ (0 + j)))
  rw [this]
  unfold fixZ
  rw [if_neg (by omega), if_neg (by omega)]
 ·
  subst e
  refine ⟨fun j hj => ?_, h1.lt⟩
  have : j < 112 := hj
  rw [o1]
  have := h1.cell j this
  show w.cell? ⟨g1, 0 + j, none⟩ = some (.int .i64 (fixZ (144 + j)))
  rw [this]
  unfold fixZ
  rw [if_pos (by omega)]
 ·
  subst e
  refine ⟨fun j hj => ?_, h2.lt⟩
  have : j < 24 := hj
  rw [o2]
  have := h2.cell j this
  show w.cell? ⟨g2, 0 + j, none⟩ = some (.int .i64 (fixZ (256 + j)))
  rw [this]
  unfold fixZ
  rw [if_neg (by omega), if_pos (by omega)]
 ·
  subst e
  refine ⟨fun j hj => ?_, h3.lt⟩
  have : j < 8 := hj
  rw [o3]
  have := h3.cell j this
  show w.cell? ⟨g3, 0 + j, none⟩ = some (.int .i64 (fixZ (280 + j)))
  rw [this]
  unfold fixZ
  rw [if_neg (by omega), if_neg (by omega)]
theorem OwnI.weaken {w : World} {B B' g cap n : Nat} {z : Nat → Int} (h : OwnI w B g cap n z) (hB : B' ≤ B) : OwnI w B' g cap n z := by
 obtain ⟨q1, q2⟩ := h.own
 refine ⟨q1, ?_⟩
 rcases q2 with ⟨q2, _⟩ | ⟨g', cap', cur, hv, hbb, r⟩
 · exact absurd q2 (by simp)
 · exact Or.inr ⟨g', cap', cur, hv, Nat.le_trans hB hbb, r⟩
def FixLPost (w : World) (n : Nat) (z : Nat → Int) (e : Ending) (w' : World) : Prop :=
 ∃ g cap, e = .returned (.slice (some ⟨g, 0, none⟩) n cap) ∧ OwnI w' w.heap.size g cap n z ∧ Below w.heap.size w w'
set_option maxHeartbeats 400000 in
theorem fixedDistances_any (w : World) : Calls Tryz.prog 74 #[] w (FixLPost w 32 fivZ) := by
 go_enter Tryz.func74, Tryz.ntmps74
 go_wp2_with fail
 refine (times_any 32 5 _ (by omega) (by omega)).mono ?_
 rintro e w2 ⟨g, rfl, ho, hb⟩
 go_wp2
 go_ret
 exact ⟨g, 32, rfl, ho, hb⟩
set_option maxRecDepth 4000 in
set_option maxHeartbeats 1000000 in
theorem fixedSymbols_any (w : World) : Calls Tryz.prog 73 #[] w (FixLPost w 288 fixZ) := by
 go_enter Tryz.func73, Tryz.ntmps73
 go_wp2_with fail
 refine (times_any 144 8 _ (by omega) (by omega)).mono ?_
 rintro e w2 ⟨ga, rfl, oga, bw2⟩
 have Bw2 : Below w.heap.size w w2 := bw2
 have iga := oga.ints
 go_wp2_with fail
 refine (times_any 112 9 _ (by omega) (by omega)).mono ?_
 rintro e w3 ⟨gb, rfl, ogb, bw3⟩
 have Bw3 : Below w.heap.size w w3 := Bw2.trans (bw3.mono Bw2.size)
 have igb := ogb.ints
 replace iga := iga.later bw3
 go_wp2_with fail
 refine (times_any 24 7 _ (by omega) (by omega)).mono ?_
 rintro e w4 ⟨gc, rfl, ogc, bw4⟩
 have Bw4 : Below w.heap.size w w4 := Bw3.trans (bw4.mono Bw3.size)
 have igc := ogc.ints
 replace iga := iga.later bw4
 replace igb := igb.later bw4
 go_wp2_with fail
 refine (times_any 8 8 _ (by omega) (by omega)).mono ?_
 rintro e w5 ⟨gd, rfl, ogd, bw5⟩
 have Bw5 : Below w.heap.size w w5 := Bw4.trans (bw5.mono Bw4.size)
 have igd := ogd.ints
 replace iga := iga.later bw5
 replace igb := igb.later bw5
 replace igc := igc.later bw5
 have hb6 : Below w5.heap.size w5 (w5.alloc (.cells #[.slice (some ⟨ga, 0, none⟩) 144 144, .slice (some ⟨gb, 0, none⟩) 112 112, .slice (some ⟨gc, 0, none⟩) 24 24, .slice (some ⟨gd, 0, none⟩) 8 8] 61)) := (Below.refl _ _).alloc (Nat.le_refl _) _
 have B6 := Bw5.trans (hb6.mono Bw5.size)
 have r6 := World.rowIs_alloc w5 #[.slice (some ⟨ga, 0, none⟩) 144 144, .slice (some ⟨gb, 0, none⟩) 112 112, .slice (some ⟨gc, 0, none⟩) 24 24, .slice (some ⟨gd, 0, none⟩) 8 8] 61 (fun i => .slice (some ⟨if i = 0 then ga else if i = 1 then gb else if i = 2 then gc else gd, 0, none⟩) (fourN i) (fourN i)) (fun i hi => by match i, hi with | 0, _ => rfl | 1, _ => rfl | 2, _ => rfl | 3, _ => rfl)
 have i6 := four_ints (iga.later hb6) (igb.later hb6) (igc.later hb6) (igd.later hb6)
 clear iga igb igc igd oga ogb ogc ogd bw2 bw3 bw4 bw5 Bw2 Bw3 Bw4 Bw5 hb6
 go_wp2_with fail
 refine (concat_any w5.heap.size 4 4 fourN _ fourN fixZ _ r6 (by omega) i6 (by rw [four_off.2.2.2.2]; omega) (by rw [four_off.2.2.2.2]; omega)).mono ?_
 rintro e w7 ⟨gq, cq, rfl, oq, b7⟩
 rw [four_off.2.2.2.2] at oq ⊢
 have B7 := B6.trans (b7.mono B6.size)
 have oq2 := oq.weaken B6.size
 clear oq b7 r6 i6 B6
 go_wp2
 go_ret
 exact ⟨gq, cq, rfl, oq2, B7⟩
end Go.Proofs.YtecddphahiadlaaGreatDoor
