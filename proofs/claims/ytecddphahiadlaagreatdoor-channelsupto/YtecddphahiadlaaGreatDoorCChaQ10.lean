import Derived.Test.YtecddphahiadlaaGreatDoorCChaH
/- Channels: step: a call of a reader. -/
namespace Go.Proofs.YtecddphahiadlaaGreatDoor
open Go.RowKit
section
variable {w0 w : World} {col : Nat → Nat} {gW : Nat} {f : Nat → Value} {x : Nat → List Value} {WL : List We} {RL : List Re} {j : Nat}
set_option maxRecDepth 8000 in
set_option maxHeartbeats 8000000 in
theorem ChaS.stepR8 (h : ChaS w0 col w gW f x WL RL j) (a b wh : Int) (S : ByteArray) (hb1 : b ≤ 9223372036854775807) (hb0 : -9223372036854775808 ≤ b) (hw1 : wh ≤ 9223372036854775807) (hw0 : -9223372036854775808 ≤ wh) (hS : S.size ≤ 6000000) (hj : j ≤ 1100000) (h0 : 1 < w0.heap.size) (hord : OrdIn w0 1) :
 Calls Tryz.prog 7 #[ptr gW, opV 8 a b wh S] w (ChaE w0 gW (j + 1)) := by
 have hb : Below w.heap.size w (w.alloc (.cells #[.int .i64 8, .int .i64 a, .int .i64 b, .int .i64 wh, .string S] 28)) := (Below.refl _ _).alloc (Nat.le_refl _) _
 have S2 := h.made hb
 have HQ : Hid (_) := S2.laterC
 have HK : Hid (∀ k : Nat, k < RL.length → Calls Tryz.prog 26 #[ptr gW, .int .i64 (k : Nat), opV 8 a b wh S] (w.alloc (.cells #[.int .i64 8, .int .i64 a, .int .i64 b, .int .i64 wh, .string S] 28)).drew fun r w' => r = .returned (.bool true) ∧ Cha w0 w' gW WL.length RL.length (j + 1)) := fun k hk2 => (S2.made (w' := (w.alloc (.cells #[.int .i64 8, .int .i64 a, .int .i64 b, .int .i64 wh, .string S] 28)).drew) ⟨rfl, rfl, rfl, Nat.le_refl _, fun _ _ => rfl⟩).readsK hk2 8 a b wh S (Or.inl rfl) hb1 hb0 hS hj h0 hord
 unfold opV at *
 obtain ⟨_, ⟨ao, cap, p2⟩⟩ := h.picks
 have q2 := (hb.cell (p := ⟨gW, 4, none⟩) h.mem.row.lt).trans p2
 have hmany : RL.length ≤ 1100003 := by have := h.many; omega
 clear h hb S2 hb1 hb0 hS hj h0 hord
 generalize WL.length = nW at *
 generalize RL.length = nR at *
 unfold ptr at *
 by_cases hn : nR = 0
 ·
  subst hn
  clear HK
  go_enter Tryz.func7, Tryz.ntmps7
  go_wp2
  go_ret
  exact ⟨rfl, _, _, HQ.out⟩
 ·
  have hn2 : 0 < nR := by omega
  have hn3 : ((nR : Int) == 0) = false := by rw [beq_eq_false_iff_ne]; omega
  have hn4 : (nR == 0) = false := by rw [beq_eq_false_iff_ne]; omega
  have HP : Hid (_) := pickw_any wh nR (w.alloc (.cells #[.int .i64 8, .int .i64 a, .int .i64 b, .int .i64 wh, .string S] 28)).drew hw0 hw1 hn2 (by omega)
  clear HQ
  go_enter Tryz.func7, Tryz.ntmps7
  go_wp2_with fail
  go_region_with (first | (go_at_call 25; refine Calls.mono HP.out ?_; rintro r w2 ⟨k, hk, rfl, rfl⟩) | (go_at_call 26; refine Calls.mono (HK.out _ (by assumption)) ?_; rintro r w3 ⟨rfl, hQ⟩; have HQ3 : Hid (_) := hQ; clear hQ))
  all_goals (go_wp2; go_ret; exact ⟨rfl, _, _, HQ3.out⟩)
end
/- Channels: step: a call of a reader. -/
section
variable {w0 w : World} {col : Nat → Nat} {gW : Nat} {f : Nat → Value} {x : Nat → List Value} {WL : List We} {RL : List Re} {j : Nat}
set_option maxRecDepth 8000 in
set_option maxHeartbeats 8000000 in
theorem ChaS.stepR10 (h : ChaS w0 col w gW f x WL RL j) (a b wh : Int) (S : ByteArray) (hb1 : b ≤ 9223372036854775807) (hb0 : -9223372036854775808 ≤ b) (hw1 : wh ≤ 9223372036854775807) (hw0 : -9223372036854775808 ≤ wh) (hS : S.size ≤ 6000000) (hj : j ≤ 1100000) (h0 : 1 < w0.heap.size) (hord : OrdIn w0 1) :
 Calls Tryz.prog 7 #[ptr gW, opV 10 a b wh S] w (ChaE w0 gW (j + 1)) := by
 have hb : Below w.heap.size w (w.alloc (.cells #[.int .i64 10, .int .i64 a, .int .i64 b, .int .i64 wh, .string S] 28)) := (Below.refl _ _).alloc (Nat.le_refl _) _
 have S2 := h.made hb
 have HQ : Hid (_) := S2.laterC
 have HK : Hid (∀ k : Nat, k < RL.length → Calls Tryz.prog 26 #[ptr gW, .int .i64 (k : Nat), opV 10 a b wh S] (w.alloc (.cells #[.int .i64 10, .int .i64 a, .int .i64 b, .int .i64 wh, .string S] 28)).drew fun r w' => r = .returned (.bool true) ∧ Cha w0 w' gW WL.length RL.length (j + 1)) := fun k hk2 => (S2.made (w' := (w.alloc (.cells #[.int .i64 10, .int .i64 a, .int .i64 b, .int .i64 wh, .string S] 28)).drew) ⟨rfl, rfl, rfl, Nat.le_refl _, fun _ _ => rfl⟩).readsK hk2 10 a b wh S (Or.inr (Or.inl rfl)) hb1 hb0 hS hj h0 hord
 unfold opV at *
 obtain ⟨_, ⟨ao, cap, p2⟩⟩ := h.picks
 have q2 := (hb.cell (p := ⟨gW, 4, none⟩) h.mem.row.lt).trans p2
 have hmany : RL.length ≤ 1100003 := by have := h.many; omega
 clear h hb S2 hb1 hb0 hS hj h0 hord
 generalize WL.length = nW at *
 generalize RL.length = nR at *
 unfold ptr at *
 by_cases hn : nR = 0
 ·
  subst hn
  clear HK
  go_enter Tryz.func7, Tryz.ntmps7
  go_wp2
  go_ret
  exact ⟨rfl, _, _, HQ.out⟩
 ·
  have hn2 : 0 < nR := by omega
  have hn3 : ((nR : Int) == 0) = false := by rw [beq_eq_false_iff_ne]; omega
  have hn4 : (nR == 0) = false := by rw [beq_eq_false_iff_ne]; omega
  have HP : Hid (_) := pickw_any wh nR (w.alloc (.cells #[.int .i64 10, .int .i64 a, .int .i64 b, .int .i64 wh, .string S] 28)).drew hw0 hw1 hn2 (by omega)
  clear HQ
  go_enter Tryz.func7, Tryz.ntmps7
  go_wp2_with fail
  go_region_with (first | (go_at_call 25; refine Calls.mono HP.out ?_; rintro r w2 ⟨k, hk, rfl, rfl⟩) | (go_at_call 26; refine Calls.mono (HK.out _ (by assumption)) ?_; rintro r w3 ⟨rfl, hQ⟩; have HQ3 : Hid (_) := hQ; clear hQ))
  all_goals (go_wp2; go_ret; exact ⟨rfl, _, _, HQ3.out⟩)
end
end Go.Proofs.YtecddphahiadlaaGreatDoor
