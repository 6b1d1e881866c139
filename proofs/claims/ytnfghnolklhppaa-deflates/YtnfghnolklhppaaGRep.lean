/- The library's Repeat, at one number; the program's times. -/
import Derived.Test.YtnfghnolklhppaaOwn
import Derived.Laws.CopyOwn
import Derived.Deep.RegionLaw
namespace Go.Proofs.Ytnfghnolklhppaa
open Go.RowKit

/-- m times the number, and noughts behind. -/
def repL (v : Int) (N m : Nat) : List Value := List.replicate m (.int .i64 v) ++ List.replicate (N - m) (.int .i64 0)

theorem repL_length (v : Int) {N m : Nat} (h : m ≤ N) : (repL v N m).length = N := by unfold repL; simp; omega

theorem repL_splice (v : Int) {N m k : Nat} (h : m + k ≤ N) : splice (repL v N m) m (List.replicate k (.int .i64 v)) = repL v N (m + k) := by
  unfold splice repL
  rw [List.take_left' (by simp), List.length_replicate, List.drop_append, List.drop_replicate, List.drop_replicate, List.length_replicate]
  rw [← List.append_assoc, List.replicate_append_replicate]
  have e1 : m - (m + k) = 0 := by omega
  have e2 : N - m - (m + k - m) = N - (m + k) := by omega
  rw [e1, e2]
  rfl

theorem repL_at {v : Int} {N m j : Nat} (h : j < m) : (repL v N m)[j]? = some (.int .i64 v) := by
  unfold repL
  rw [List.getElem?_append_left (by simpa using h), List.getElem?_replicate, if_pos h]

theorem made_repL {w : World} {g N : Nat} (v : Int) (h : w.rowIs g 3 N (fun _ => .int .i64 0)) : w.heap[g]? = some (.cells (repL v N 0).toArray 3 (0, 0)) := by
  obtain ⟨A, hb, hs, ha⟩ := h
  have e : A = (repL v N 0).toArray := by
    apply Array.ext_getElem?
    intro i
    by_cases hi : i < N
    · rw [ha i hi]
      simp [repL, hi]
    · rw [Array.getElem?_eq_none (by omega), Array.getElem?_eq_none (by simp [repL]; omega)]
  rw [hb, e]

structure RepR (w wr : World) (v : Int) (N g m : Nat) : Prop where
  below : Below w.heap.size w wr
  ge : w.heap.size ≤ g
  le : m ≤ N
  row : wr.heap[g]? = some (.cells (repL v N m).toArray 3 (0, 0))

theorem wrap_u (n : Nat) (h : n ≤ 4294967295) : IntKind.u64.wrap (n : Int) = (n : Int) := by
  rw [IntKind.wrap_u64]
  omega

theorem mask_n (n : Nat) (h : n ≤ 4294967295) : bits BinOp.and IntKind.u64 (n : Int) 4294967295 = (n : Int) := by
  have h1 : (BitVec.ofInt 64 (n : Int)).toNat = n := by
    rw [BitVec.ofInt_natCast, BitVec.toNat_ofNat]; exact Nat.mod_eq_of_lt (by omega)
  show IntKind.u64.wrap ((BitVec.ofInt 64 (n : Int) &&& BitVec.ofInt 64 4294967295).toNat : Int) = _
  have h2 : (BitVec.ofInt 64 4294967295).toNat = 4294967295 := by decide
  have h3 : n &&& 4294967295 = n % 4294967296 := Nat.and_two_pow_sub_one_eq_mod n 32
  rw [BitVec.toNat_and, h1, h2, h3, Nat.mod_eq_of_lt (by omega)]
  exact wrap_u n h

set_option maxHeartbeats 400000 in
theorem mul_any (n : Nat) (w : World) (hn : n ≤ 1000) :
    Calls Try.prog 63 #[.int .u64 1, .int .u64 (n : Int)] w fun e w' => e = .returned (.tuple #[.int .u64 0, .int .u64 (n : Int)]) ∧ w' = w := by
  have hmask := mask_n n (by omega)
  have h1m : bits BinOp.and IntKind.u64 1 4294967295 = 1 := by decide
  have h0m : bits BinOp.and IntKind.u64 0 4294967295 = 0 := by decide
  have hw := wrap_u n (by omega)
  have hw0 : IntKind.u64.wrap 0 = 0 := by decide
  have hdiv : (n : Int) / 4294967296 = 0 := by omega
  go_enter Try.func63, Try.ntmps63
  go_wp2
  go_ret2
  exact ⟨rfl, rfl⟩

set_option maxRecDepth 4000 in
set_option maxHeartbeats 1000000 in
theorem repeat_any (gx c n : Nat) (v : Int) (w : World) (hx : w.cell? ⟨gx, 0, none⟩ = some (.int .i64 v)) (hgx : gx < w.heap.size) (hn : n ≤ 1000) (h1 : 1 ≤ n) :
    Calls Try.prog 60 #[.slice (some ⟨gx, 0, none⟩) 1 c, .int .i64 (n : Int)] w fun e w' => ∃ g, e = .returned (.slice (some ⟨g, 0, none⟩) n n) ∧ RepR w w' v n g n := by
  have hmk := run_make_row' (P := Try.prog) 30 3 (.int .i64 0) 8 Try.underlying30 Try.info3 rfl .i64 .i64 n (by omega) (by omega)
  have hrow0 := made_repL v (World.rowIs_made w (.int .i64 0) n 3)
  have hb0 : Below w.heap.size w (w.alloc (.cells (madeCells #[.int .i64 0] n) 3)) := (Below.refl _ _).alloc (Nat.le_refl _) _
  have hx0 : (w.alloc (.cells (madeCells #[.int .i64 0] n) 3)).cell? ⟨gx, 0, none⟩ = some (.int .i64 v) := (hb0.cell (p := ⟨gx, 0, none⟩) hgx).trans hx
  have hsz : (Try.prog.info? 3).map (·.size) = some 1 := by kernel_rfl
  go_enter Try.func60, Try.ntmps60
  go_wp2_with fail
  refine (mul_any n _ hn).mono ?_
  rintro e w1 ⟨rfl, rfl⟩
  obtain ⟨g, hg⟩ : ∃ g, g = w1.heap.size := ⟨_, rfl⟩
  have HG : Hid (g = w1.heap.size) := hg
  go_wp2_with (refine wpList_copy_splice rfl (.tmp 31) (.tmp 32) 30 30 rfl 3 Try.underlying30 hsz (some ⟨w1.heap.size, 0, none⟩) (some ⟨gx, 0, none⟩) n n 1 c rfl rfl w1.heap.size 0 (repL v n 0) 3 hrow0 [.int .i64 v] (by show 1 = Nat.min 1 n; exact (Nat.min_eq_left h1).symm) (fun _ => ⟨rfl, ⟨gx, 0, none⟩, rfl, fun j u hj => by match j, hj with | 0, hj => (simp at hj; subst hj; rw [addr_add0]; exact hx0)⟩) (by rw [repL_length v (Nat.zero_le _)]; simpa using h1) (by simp [Value.oneCell']) w1.heap.size w1 hb0 (Nat.le_refl _) ?_; intro w2 hg2 hb2)
  have R0 : RepR w1 w2 v n g 1 := ⟨hb2, by omega, h1, by rw [hg]; have e := hg2.out; rw [show ([Value.int .i64 v] : List Value) = List.replicate 1 (.int .i64 v) from rfl, repL_splice v (by omega)] at e; exact e⟩
  rw [← hg]
  clear hg hg2 hb2 hrow0 hb0 hx0 hmk hx
  go_loopw [8] (fun k wr => ∃ m : Nat, 1 ≤ m ∧ k = .int .i64 (m : Nat) ∧ RepR w1 wr v n g m) (fun k _ => n - (intOf k).toNat)
  case atStart => exact ⟨1, by omega, rfl, R0⟩
  case round =>
    obtain ⟨m, hm1, rfl, hrel⟩ := hrel
    clear R0
    have hmn := hrel.le
    by_cases hlt : m < n
    · have hltI : (m : Int) < (n : Int) := by omega
      obtain ⟨q, hq⟩ : ∃ q, q = Nat.min m (n - m) := ⟨_, rfl⟩
      have hq1 : 1 ≤ q := by rw [hq]; exact Nat.le_min.2 ⟨hm1, by omega⟩
      have hqA : q ≤ m := by rw [hq]; exact Nat.min_le_left _ _
      have hqB : q ≤ n - m := by rw [hq]; exact Nat.min_le_right _ _
      have hq2 : m + q ≤ n := by omega
      have HQ : Hid (q = Nat.min m (n - m)) := hq
      clear hq
      have hwr : IntKind.i64.wrap ((m : Int) + (q : Int)) = (m : Int) + (q : Int) := by rw [IntKind.wrap_i64]; omega
      have hrd : wr.drew.heap[g]? = some (.cells (repL v n m).toArray 3 (0, 0)) := hrel.row
      have hbd : Below w1.heap.size w1 wr.drew := hrel.below.drew
      have HGE : Hid (_) := hrel.ge
      go_wp2_with fail
      go_region_law (
        refine step_copy_splice rfl (.tmp 41) (.tmp 44) 30 30 rfl 3 Try.underlying30 hsz (some ⟨g, m, none⟩) (some ⟨g, 0, none⟩) (n - m) (n - m) m n (by simp [Act.eval, Act.put]; omega) (by simp [Act.eval, Act.put]) g m (repL v n m) 3 hrd (List.replicate q (.int .i64 v)) (by rw [List.length_replicate]; exact HQ.out) (fun _ => ⟨rfl, ⟨g, 0, none⟩, rfl, fun j u hj => by
          rw [List.getElem?_replicate] at hj
          split at hj
          · rename_i hjq
            simp at hj
            subst hj
            have hjm : j < m := by omega
            rw [addr_add0]
            have e := repL_at (v := v) (N := n) hjm
            simp [World.cell?, hrd]
            simpa using e
          · simp at hj⟩) (by rw [List.length_replicate, repL_length v hmn]; exact hq2) (by intro u hu; rw [List.eq_of_mem_replicate hu]; rfl) w1.heap.size w1 hbd HGE.out ?_
        intro w4 hg4 hb4)
      all_goals
        have R : RepR w1 w4 v n g (m + q) := ⟨hb4, HGE.out, hq2, by have e := hg4.out; rw [repL_splice v hq2] at e; exact e⟩
        clear hg4 hb4 hrd hbd
        go_wp2
        go_roundw
        case rel => exact ⟨m + q, by omega, by simp, R⟩
        case measure => simp [intOf]; omega
    · obtain rfl : m = n := by omega
      go_wp2
      go_ret
      exact ⟨g, rfl, hrel⟩

end Go.Proofs.Ytnfghnolklhppaa
