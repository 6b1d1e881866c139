/- Contracts of the leaves: pick, begins. -/
import Derived.Test.YtecddphahiadlaaGreatDoorCPure
namespace Go.Proofs.YtecddphahiadlaaGreatDoor
open Go.RowKit

/-- The number that 'pick' makes of c and n. -/
def pickN (c n : Int) : Int := (if c < 0 then -(c + 1) else c) % n

theorem pickN_bd (c n : Int) (h : 1 ≤ n) : 0 ≤ pickN c n ∧ pickN c n < n := by
  unfold pickN
  exact ⟨Int.emod_nonneg _ (by omega), Int.emod_lt_of_pos _ (by omega)⟩

theorem pickN_neg (c n : Int) (h : c < 0) : -((c + 1).tmod n) = pickN c n := by
  unfold pickN
  rw [if_pos h, ← Int.neg_tmod, Int.tmod_eq_emod_of_nonneg (by omega)]
theorem pickN_pos (c n : Int) (h : ¬ c < 0) : c % n = pickN c n := by
  unfold pickN
  rw [if_neg h]

set_option maxHeartbeats 400000 in
theorem pick_any (c n : Int) (w : World) (h1 : -9223372036854775808 ≤ c) (h2 : c ≤ 9223372036854775807) (h3 : 1 ≤ n) (h4 : n ≤ 9223372036854775807) :
    Calls Tryz.prog 18 #[.int .i64 c, .int .i64 n] w fun e w' => e = .returned (.int .i64 (pickN c n)) ∧ w' = w := by
  by_cases hc : c < 0
  · have H := pickN_neg c n hc
    have HS : Hid (-((c + 1).tmod n) = pickN c n) := H
    clear H
    go_enter Tryz.func18, Tryz.ntmps18
    go_wp2
    go_ret
    exact ⟨ret_int (by rw [← HS.out]), rfl⟩
  · have H := pickN_pos c n hc
    have HS : Hid (c % n = pickN c n) := H
    clear H
    go_enter Tryz.func18, Tryz.ntmps18
    go_wp2
    go_ret
    exact ⟨ret_int HS.out, rfl⟩

theorem begB_short (a b : ByteArray) : ((b.extract 0 a.size).toList == a.toList) = begB a b := by
  have e1 : a.data.toList.length = a.size := by rw [Array.length_toList]; rfl
  rw [Lib.extract_toList, ByteArray.toList_eq, begB, Bool.eq_iff_iff, beq_iff_eq, decide_eq_true_iff, List.drop_zero, Nat.sub_zero, List.prefix_iff_eq_take, e1]
  exact eq_comm

set_option maxHeartbeats 400000 in
theorem begins_any (a b : ByteArray) (w : World) (_ha : a.size ≤ maxLen) (_hb : b.size ≤ maxLen) :
    Calls Tryz.prog 54 #[.string a, .string b] w fun e w' => e = .returned (.bool (begB a b)) ∧ w' = w := by
  unfold maxLen at _ha _hb
  by_cases hl : a.size ≤ b.size
  · go_enter Tryz.func54, Tryz.ntmps54
    go_wp2
    go_ret
    exact ⟨ret_bool (begB_short a b), rfl⟩
  · have H := begB_long a b (by omega)
    have HS : Hid (begB a b = false) := H
    clear H
    go_enter Tryz.func54, Tryz.ntmps54
    go_wp2
    go_ret
    exact ⟨ret_bool HS.out.symm, rfl⟩

end Go.Proofs.YtecddphahiadlaaGreatDoor
