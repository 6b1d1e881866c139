/- The document's fixed: the codes of kind 1. -/
import Derived.Test.YtecddphahiadlaaGreatDoorCOwn
import Derived.Test.YtecddphahiadlaaGreatDoorCRef2
namespace Go.Proofs.YtecddphahiadlaaGreatDoor
open Go.RowKit

def fixZ (i : Nat) : Int := if 144 ≤ i ∧ i ≤ 255 then 9 else if 256 ≤ i ∧ i ≤ 279 then 7 else 8
def fivZ (_ : Nat) : Int := 5

theorem fixZ_rng (i : Nat) : 0 ≤ fixZ i ∧ fixZ i ≤ 15 := by
  unfold fixZ
  split
  · omega
  · split <;> omega
theorem fixZ_kr : kr (cntN fixZ 288) 15 ≤ 32768 := by
  rw [kr_ks0 fixZ 288 (fun i _ => fixZ_rng i)]
  decide +kernel
theorem fivZ_kr : kr (cntN fivZ 32) 15 ≤ 32768 := by
  rw [kr_ks0 fivZ 32 (fun i _ => by unfold fivZ; omega)]
  decide +kernel

/-- A list of numbers that is being made: the first k of them. -/
structure LR (w : World) (v : Value) (k : Nat) (z : Nat → Int) (wr : World) : Prop where
  own : wr.ownsRow w.heap.size 3 1 v k (intsOf z k)
  below : Below w.heap.size w wr

theorem lr_start (w : World) (z : Nat → Int) : LR w (.slice none 0 0) 0 z w := ⟨World.ownsRow_nil w _ _ _, Below.refl _ _⟩

theorem lr_step {w wr w2 : World} {v : Value} {k : Nat} {z : Nat → Int} {x : Int} {o : Obj} {g' cap' : Nat} (h : LR w v k z wr) (hz : z k = x)
    (ho : w2.ownsRow w.heap.size 3 1 (.slice (some ⟨g', 0, none⟩) (k + 1) cap') (k + 1) (intsOf z k ++ [.int .i64 x])) (hg : (wr.alloc o).grownBy w2 (some g')) : LR w (.slice (some ⟨g', 0, none⟩) (k + 1) cap') (k + 1) z w2 := by
  subst hz
  refine ⟨by rw [intsOf_succ]; exact ho, ?_⟩
  have h1 := ho.lt g' rfl
  have h2 := h.below.size
  exact (h.below.alloc h2 _).grown hg (by simp; omega) (fun j e => by obtain rfl := Option.some.inj e; exact h1.1)

theorem lr_form {w wr : World} {v : Value} {k : Nat} {z : Nat → Int} (h : LR w v k z wr) (hk : 1 ≤ k) : ∃ g cap, v = .slice (some ⟨g, 0, none⟩) k cap ∧ OwnI wr w.heap.size g cap k z := by
  obtain ⟨h1, h2⟩ := h.own
  rcases h2 with ⟨_, h2⟩ | ⟨g, cap, cur, hv, r⟩
  · omega
  · exact ⟨g, cap, hv, ⟨h1, Or.inr ⟨g, cap, cur, rfl, r⟩⟩⟩

def FixPost (w : World) (e : Ending) (w' : World) : Prop :=
  ∃ gl gd, e = .returned (.tuple #[.slice (some ⟨gl, 0, none⟩) 288 288, .slice (some ⟨gd, 0, none⟩) 32 32]) ∧ w.heap.size ≤ gl ∧ w.heap.size ≤ gd ∧
    w'.rowIs gl 9 288 (fun i => .string (codeT fixZ 288 i)) ∧ w'.rowIs gd 9 32 (fun i => .string (codeT fivZ 32 i)) ∧ Below w.heap.size w w'

set_option maxRecDepth 4000 in
set_option maxHeartbeats 1000000 in
theorem fixed_any (w : World) : Calls Tryz.prog 87 #[] w fun e w' => FixPost w e w' := by
  have R0 := lr_start w fixZ
  go_enter Tryz.func87, Tryz.ntmps87
  go_wp2_with fail
  go_loopw [2, 4, 5] (fun v i _ wr => ∃ k : Nat, k ≤ 288 ∧ i = .int .i64 (k : Nat) ∧ LR w v k fixZ wr) (fun _ i _ _ => 288 - (intOf i).toNat)
  case atStart => exact ⟨0, by omega, rfl, R0⟩
  case round =>
    clear R0
    obtain ⟨k, hk, rfl, hrel⟩ := hrel
    by_cases hlt : k < 288
    · rcases (by omega : k < 144 ∨ (144 ≤ k ∧ k ≤ 255) ∨ (256 ≤ k ∧ k ≤ 279) ∨ 280 ≤ k) with c | c | c | c
      · have HZ : Hid (fixZ k = 8) := by show _ = _; unfold fixZ; rw [if_neg (by omega), if_neg (by omega)]
        go_wp2_with (first | (at_builtin; refine wpList_append1s wr rfl (.tmp 23) (.tmp 25) 61 rfl _ 3 (.int .i64 0) 8 Tryz.underlying61 Tryz.info3 rfl u2 k _ (.int .i64 8) rfl rfl wr.heap.size rfl rfl hrel.own hrel.below.size (by unfold maxLen; omega) (by omega) ?_) | fail)
        intro g' cap' w2 ho hd hg
        have R := lr_step hrel HZ.out ho hg
        clear ho hd hg hrel
        go_wp2
        go_roundw
        case rel => exact ⟨k + 1, by omega, by go_num, R⟩
        case measure => simp [intOf]; omega
      · have HZ : Hid (fixZ k = 9) := by show _ = _; unfold fixZ; rw [if_pos (by omega)]
        go_wp2_with (first | (at_builtin; refine wpList_append1s wr rfl (.tmp 23) (.tmp 25) 61 rfl _ 3 (.int .i64 0) 8 Tryz.underlying61 Tryz.info3 rfl u2 k _ (.int .i64 9) rfl rfl wr.heap.size rfl rfl hrel.own hrel.below.size (by unfold maxLen; omega) (by omega) ?_) | fail)
        intro g' cap' w2 ho hd hg
        have R := lr_step hrel HZ.out ho hg
        clear ho hd hg hrel
        go_wp2
        go_roundw
        case rel => exact ⟨k + 1, by omega, by go_num, R⟩
        case measure => simp [intOf]; omega
      · have HZ : Hid (fixZ k = 7) := by show _ = _; unfold fixZ; rw [if_neg (by omega), if_pos (by omega)]
        go_wp2_with (first | (at_builtin; refine wpList_append1s wr rfl (.tmp 23) (.tmp 25) 61 rfl _ 3 (.int .i64 0) 8 Tryz.underlying61 Tryz.info3 rfl u2 k _ (.int .i64 7) rfl rfl wr.heap.size rfl rfl hrel.own hrel.below.size (by unfold maxLen; omega) (by omega) ?_) | fail)
        intro g' cap' w2 ho hd hg
        have R := lr_step hrel HZ.out ho hg
        clear ho hd hg hrel
        go_wp2
        go_roundw
        case rel => exact ⟨k + 1, by omega, by go_num, R⟩
        case measure => simp [intOf]; omega
      · have HZ : Hid (fixZ k = 8) := by show _ = _; unfold fixZ; rw [if_neg (by omega), if_neg (by omega)]
        go_wp2_with (first | (at_builtin; refine wpList_append1s wr rfl (.tmp 23) (.tmp 25) 61 rfl _ 3 (.int .i64 0) 8 Tryz.underlying61 Tryz.info3 rfl u2 k _ (.int .i64 8) rfl rfl wr.heap.size rfl rfl hrel.own hrel.below.size (by unfold maxLen; omega) (by omega) ?_) | fail)
        intro g' cap' w2 ho hd hg
        have R := lr_step hrel HZ.out ho hg
        clear ho hd hg hrel
        go_wp2
        go_roundw
        case rel => exact ⟨k + 1, by omega, by go_num, R⟩
        case measure => simp [intOf]; omega
    · have HK : Hid (k = 288) := by show k = 288; omega
      have dK : decide ((k : Int) < 288) = false := by rw [decide_eq_false_iff_not]; omega
      obtain ⟨gl, cl, rfl, hol⟩ := lr_form hrel (by omega)
      obtain ⟨k0, hk0⟩ : ∃ k0, k0 = k := ⟨_, rfl⟩
      rw [← hk0] at HK hol dK ⊢
      have hb1 := hrel.below
      obtain ⟨w1, hw1⟩ : ∃ w1, w1 = wr := ⟨_, rfl⟩
      have R1 := lr_start w1 fivZ
      rw [← hw1] at hol hb1 ⊢
      clear hrel hlt hk hw1 hk0
      go_wp2_with fail
      go_loopw [3, 6] (fun v i wq => ∃ k : Nat, k ≤ 32 ∧ i = .int .i64 (k : Nat) ∧ LR w1 v k fivZ wq) (fun _ i _ => 32 - (intOf i).toNat)
      case atStart => exact ⟨0, by omega, rfl, R1⟩
      case round =>
        clear R1
        obtain ⟨k, hk, rfl, hrel⟩ := hrel
        by_cases hlt : k < 32
        · have HZ : Hid (fivZ k = 5) := rfl
          go_wp2_with (first | (at_builtin; refine wpList_append1s wr rfl (.tmp 31) (.tmp 32) 61 rfl _ 3 (.int .i64 0) 8 Tryz.underlying61 Tryz.info3 rfl u3 k _ (.int .i64 5) rfl rfl wr.heap.size rfl rfl hrel.own hrel.below.size (by unfold maxLen; omega) (by omega) ?_) | fail)
          intro g' cap' w2 ho hd hg
          have R := lr_step hrel HZ.out ho hg
          clear ho hd hg hrel
          go_wp2
          go_roundw
          case rel => exact ⟨k + 1, by omega, by go_num, R⟩
          case measure => simp [intOf]; omega
        · obtain rfl : k = 32 := by omega
          obtain ⟨gd, cd, rfl, hod⟩ := lr_form hrel (by omega)
          have hb2 := hrel.below
          have hI1 := hol.ints.later hb2
          clear hrel hlt hk
          go_wp2_with fail
          refine (rcodes_any gl 0 k0 cl fixZ _ hI1 (by have := HK.out; omega) (fun i _ => fixZ_rng i) (by rw [HK.out]; exact fixZ_kr)).mono ?_
          rintro e w3 ⟨rfl, hr3, hb3⟩
          have hI2 := hod.ints.later hb3
          go_wp2_with fail
          refine (rcodes_any gd 0 32 cd fivZ _ hI2 (by omega) (fun i _ => by unfold fivZ; omega) fivZ_kr).mono ?_
          rintro e w4 ⟨rfl, hr4, hb4⟩
          have hs1 := hb1.size
          have hs2 := hb2.size
          have hs3 := hb3.size
          have P : FixPost w (.returned (.tuple #[.slice (some ⟨wr.heap.size, 0, none⟩) k0 k0, .slice (some ⟨w3.heap.size, 0, none⟩) 32 32])) w4 := by
            have e := HK.out
            subst e
            exact ⟨_, _, rfl, by omega, by omega, hr3.of_block (hb4.block _ hr3.lt), hr4, ((hb1.trans (hb2.mono hs1)).trans (hb3.mono (by omega))).trans (hb4.mono (by omega))⟩
          clear hr3 hr4 hb1 hb2 hb3 hb4 hI1 hI2 hol hod hs1 hs2 hs3
          go_wp2
          go_ret2
          exact P

end Go.Proofs.YtecddphahiadlaaGreatDoor
