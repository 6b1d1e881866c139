import Derived.Test.YtecddphahiadlaaGreatDoorCChaI
import Derived.Test.YtecddphahiadlaaGreatDoorCChaJ
import Derived.Test.YtecddphahiadlaaGreatDoorCChaQ10
import Derived.Test.YtecddphahiadlaaGreatDoorCChaK
/- Channels: step, whatever it is. -/
namespace Go.Proofs.YtecddphahiadlaaGreatDoor
open Go.RowKit
theorem ChaS.step {w0 w : World} {col : Nat → Nat} {gW : Nat} {f : Nat → Value} {x : Nat → List Value} {WL : List We} {RL : List Re} {j : Nat} (h : ChaS w0 col w gW f x WL RL j) (kd a b wh : Int) (S : ByteArray) (ha1 : a ≤ 9223372036854775807) (ha0 : -9223372036854775808 ≤ a) (hb1 : b ≤ 9223372036854775807) (hb0 : -9223372036854775808 ≤ b) (hw1 : wh ≤ 9223372036854775807) (hw0 : -9223372036854775808 ≤ wh) (hS : S.size ≤ 6000000) (hj : j ≤ 1100000) (h0 : 1 < w0.heap.size) (hord : OrdIn w0 1) :
 Calls Tryz.prog 7 #[ptr gW, opV kd a b wh S] w (ChaE w0 gW (j + 1)) := by
 by_cases q : kd < 1 ∨ 11 < kd
 · exact h.stepN kd a b wh S q
 ·
  have q2 : kd = 1 ∨ kd = 7 ∨ (2 ≤ kd ∧ kd ≤ 6) ∨ kd = 9 ∨ kd = 8 ∨ kd = 10 ∨ kd = 11 := by omega
  rcases q2 with rfl | rfl | q2 | rfl | rfl | rfl | rfl
  · exact h.step1 a b wh S (by omega)
  · exact h.step7 a b wh S (by omega)
  · exact h.stepW2 kd a b wh S q2 ha1 ha0 hb1 hb0 hw1 hw0 hS hj h0 hord
  · exact h.stepW9 a b wh S ha1 ha0 hb1 hb0 hw1 hw0 hS hj h0 hord
  · exact h.stepR8 a b wh S hb1 hb0 hw1 hw0 hS hj h0 hord
  · exact h.stepR10 a b wh S hb1 hb0 hw1 hw0 hS hj h0 hord
  · exact h.stepR11 a b wh S hb1 hb0 hw1 hw0 hS hj h0 hord
/- Channels: the walk. -/
/-- The script in memory. -/
def ScrM (w : World) (ao : Option Addr) (n : Nat) (kd aa bb wh : Nat → Int) (SS : Nat → ByteArray) : Prop :=
 ∀ k, k < n → ∃ b off, ao = some ⟨b, off, none⟩ ∧ b < w.heap.size ∧ w.cell? ⟨b, off + k * 5, none⟩ = some (.int .i64 (kd k)) ∧ w.cell? ⟨b, off + k * 5 + 1, none⟩ = some (.int .i64 (aa k)) ∧ w.cell? ⟨b, off + k * 5 + 2, none⟩ = some (.int .i64 (bb k)) ∧ w.cell? ⟨b, off + k * 5 + 3, none⟩ = some (.int .i64 (wh k)) ∧ w.cell? ⟨b, off + k * 5 + 4, none⟩ = some (.string (SS k))
/-- Its bounds. -/
def ScrB (n : Nat) (kd aa bb wh : Nat → Int) (SS : Nat → ByteArray) : Prop :=
 ∀ k, k < n → (-9223372036854775808 ≤ kd k ∧ kd k ≤ 9223372036854775807) ∧ (-9223372036854775808 ≤ aa k ∧ aa k ≤ 9223372036854775807) ∧ (-9223372036854775808 ≤ bb k ∧ bb k ≤ 9223372036854775807) ∧ (-9223372036854775808 ≤ wh k ∧ wh k ≤ 9223372036854775807) ∧ (SS k).size ≤ 6000000
set_option maxRecDepth 8000 in
set_option maxHeartbeats 1000000 in
theorem channels_any (ch : Int) (ao : Option Addr) (lenN capN : Nat) (w : World) (kd aa bb wh : Nat → Int) (SS : Nat → ByteArray) (hlen : lenN ≤ 1048576)
 (hscr : ScrM w ao lenN kd aa bb wh SS) (hbd : ScrB lenN kd aa bb wh SS) (h0 : 1 < w.heap.size) (hord : OrdIn w 1) :
 Calls Tryz.prog 3 #[.int .i64 ch, .slice ao lenN capN] w fun e w' => e = .returned (.bool true) ∧ Below w.heap.size w w' := by
 go_enter Tryz.func3, Tryz.ntmps3
 go_wp2_with fail
 refine (begun_any ch w).mono ?_
 rintro e w1 ⟨gW, rfl, hm⟩
 unfold ptr
 go_wp2_with fail
 go_loopw [6, 7] (fun ok i wr => ∃ m : Nat, m ≤ lenN ∧ i = .int .i64 (m : Nat) ∧ ok = .bool true ∧ ∃ nW nR, Cha w wr gW nW nR (m + 4)) (fun _ i _ => lenN - (intOf i).toNat)
 case atStart => exact ⟨0, by omega, rfl, rfl, hm⟩
 case round =>
  clear hm
  obtain ⟨m, hml, rfl, rfl, nW, nR, hM⟩ := hrel
  obtain ⟨col, f, x, WL, RL, hM, _, _⟩ := hM
  have hbl := hM.below
  by_cases hlt : m < lenN
  ·
   obtain ⟨b, off, hao, hbw, q0, q1, q2, q3, q4⟩ := hscr m hlt
   obtain ⟨b0, b1, b2, b3, b4⟩ := hbd m hlt
   have c0 := (hbl.cell (p := ⟨b, off + m * 5, none⟩) hbw).trans q0
   have c1 := (hbl.cell (p := ⟨b, off + m * 5 + 1, none⟩) hbw).trans q1
   have c2 := (hbl.cell (p := ⟨b, off + m * 5 + 2, none⟩) hbw).trans q2
   have c3 := (hbl.cell (p := ⟨b, off + m * 5 + 3, none⟩) hbw).trans q3
   have c4 := (hbl.cell (p := ⟨b, off + m * 5 + 4, none⟩) hbw).trans q4
   have HA : Hid (_) := hM.step (kd m) (aa m) (bb m) (wh m) (SS m) b1.2 b1.1 b2.2 b2.1 b3.2 b3.1 b4 (by omega) h0 hord
   unfold ptr opV at HA
   rw [hao]
   have hmI : (m : Int) < (lenN : Int) := by omega
   clear q0 q1 q2 q3 q4 b0 b1 b2 b3 b4 hscr hbd hM hbl hao
   go_wp2_with fail
   refine Calls.mono HA.out ?_
   rintro e w2 ⟨rfl, hM2⟩
   clear HA c0 c1 c2 c3 c4
   go_wp2_with fail
   go_roundw
   case rel => exact ⟨m + 1, by omega, by go_num, rfl, by rw [show m + 1 + 4 = m + 4 + 1 by omega]; exact hM2⟩
   case measure => simp [intOf]; omega
  ·
   obtain rfl : m = lenN := by omega
   clear hscr hbd hM
   go_wp2
   go_ret
   exact ⟨rfl, hbl⟩
end Go.Proofs.YtecddphahiadlaaGreatDoor
