/- The program's past: alike. -/
import Derived.Test.YtnfghnolklhppaaPut
import Derived.Test.YtnfghnolklhppaaOwn
import Derived.WalkSmall
namespace Go.Proofs.Ytnfghnolklhppaa
open Go.RowKit

/-- Byte i of a text. -/
def tb (T : ByteArray) (i : Nat) : UInt8 := T.data.toList.getD i 0
/-- k bytes from two places on are the same. -/
def Alk (T : ByteArray) (p q k : Nat) : Prop := ∀ i, i < k → tb T (p + i) = tb T (q + i)

theorem Alk.zero (T : ByteArray) (p q : Nat) : Alk T p q 0 := fun i h => by omega
theorem Alk.more {T : ByteArray} {p q k : Nat} (h : Alk T p q k) (e : tb T (p + k) = tb T (q + k)) : Alk T p q (k + 1) := fun i hi => by
  rcases (by omega : i < k ∨ i = k) with h1 | h1
  · exact h i h1
  · subst h1; exact e

def AlikePost (w : World) (T : ByteArray) (p q m : Nat) (e : Ending) (w' : World) : Prop :=
  ∃ k : Nat, e = .returned (.int .i64 (k : Nat)) ∧ k ≤ m ∧ Alk T p q k ∧ (k < m → tb T (p + k) ≠ tb T (q + k)) ∧ Below w.heap.size w w'

set_option maxHeartbeats 400000 in
theorem alike_any (p q m ge n cE : Nat) (T : ByteArray) (w : World) (hT : T.size ≤ 5000) (hp : p + m ≤ T.size) (hq : q + m ≤ T.size) :
    Calls Try.prog 61 #[.agg #[.string T, .slice (some ⟨ge, 0, none⟩) n cE], .int .i64 (p : Int), .int .i64 (q : Int), .int .i64 (m : Int)] w (AlikePost w T p q m) := by
  have C0 : (w.alloc (.cells #[.string T, .slice (some ⟨ge, 0, none⟩) n cE] 89)).cell? ⟨w.heap.size, 0, none⟩ = some (.string T) := by
    have e := World.rowIs_alloc w #[.string T, .slice (some ⟨ge, 0, none⟩) n cE] 89 (fun i => if i = 0 then .string T else .slice (some ⟨ge, 0, none⟩) n cE) (fun i hi => by match i, hi with | 0, _ => rfl | 1, _ => rfl)
    exact e.cell (i := 0) (by simp)
  have B0 : Below w.heap.size w (w.alloc (.cells #[.string T, .slice (some ⟨ge, 0, none⟩) n cE] 89)) := (Below.refl _ _).alloc (Nat.le_refl _) _
  go_enter Try.func61, Try.ntmps61
  go_wp2
  go_loopw [9] (fun x wr => ∃ k : Nat, k ≤ m ∧ x = .int .i64 (k : Nat) ∧ Alk T p q k ∧ wr.cell? ⟨w.heap.size, 0, none⟩ = some (.string T) ∧ Below w.heap.size w wr) (fun x _ => m - (intOf x).toNat)
  case atStart => exact ⟨0, by omega, rfl, Alk.zero _ _ _, C0, B0⟩
  case round =>
    obtain ⟨k, hk, rfl, hs, hc, hb⟩ := hrel
    clear C0 B0
    by_cases hlt : k < m
    · have i1 : ∀ wq, _ := fun wq => index_run T (p + k) ((p : Int) + (k : Int)) (by omega) (by omega) wq
      have i2 : ∀ wq, _ := fun wq => index_run T (q + k) ((q : Int) + (k : Int)) (by omega) (by omega) wq
      have b1 := (tb T (p + k)).toNat_lt
      have b2 := (tb T (q + k)).toNat_lt
      have hd : decide ((k : Int) < (m : Int)) = true := by rw [decide_eq_true_iff]; omega
      by_cases he : tb T (p + k) = tb T (q + k)
      · have S2 := hs.more he
        have HE : Hid ((T.data.toList.getD (p + k) 0).toNat = (T.data.toList.getD (q + k) 0).toNat) := congrArg UInt8.toNat he
        rw [HE.out] at i1
        generalize (T.data.toList.getD (q + k) 0).toNat = c at i1 i2
        clear he b1 b2
        go_wp2
        go_big_quiet (fail)
        go_wp2
        go_roundw
        case rel => exact ⟨k + 1, by omega, by go_num, S2, hc, below_drewN hb nq⟩
        case measure => simp [intOf]; omega
      · have HE : Hid (tb T (p + k) ≠ tb T (q + k)) := he
        have hne : (T.data.toList.getD (p + k) 0).toNat ≠ (T.data.toList.getD (q + k) 0).toNat := fun e => he (UInt8.toNat_inj.1 e)
        generalize (T.data.toList.getD (p + k) 0).toNat = c1 at i1 hne
        generalize (T.data.toList.getD (q + k) 0).toNat = c2 at i2 hne
        have hbe : (((c1 : Int)) == ((c2 : Int))) = false := by rw [beq_eq_false_iff_ne]; omega
        clear he b1 b2 hne
        go_wp2
        go_big_quiet (fail)
        go_wp2
        go_ret
        exact ⟨k, rfl, hk, hs, fun _ => HE.out, below_drewN hb nq⟩
    · obtain rfl : k = m := by omega
      have hd : decide ((k : Int) < (k : Int)) = false := by rw [decide_eq_false_iff_not]; omega
      go_wp2
      go_big_quiet (fail)
      go_wp2
      go_ret
      exact ⟨k, rfl, hk, hs, fun h => by omega, below_drewN hb nq⟩

theorem alike_int (p q m ge n cE : Nat) (M : Int) (T : ByteArray) (w : World) (hM : M = (m : Int)) (hT : T.size ≤ 5000) (hp : p + m ≤ T.size) (hq : q + m ≤ T.size) :
    Calls Try.prog 61 #[.agg #[.string T, .slice (some ⟨ge, 0, none⟩) n cE], .int .i64 (p : Int), .int .i64 (q : Int), .int .i64 M] w (AlikePost w T p q m) := by
  subst hM
  exact alike_any p q m ge n cE T w hT hp hq

end Go.Proofs.Ytnfghnolklhppaa
