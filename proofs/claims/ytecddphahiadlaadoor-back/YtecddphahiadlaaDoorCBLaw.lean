/- Back: a text comes back. -/
import Derived.Test.YtecddphahiadlaaDoorCDefL
import Derived.Test.YtecddphahiadlaaDoorCMonR
import Derived.Test.YtecddphahiadlaaDoorCGInf
import Derived.Test.YtecddphahiadlaaDoorCKLeaf
namespace Go.Proofs.YtecddphahiadlaaDoor
open Go.RowKit

theorem OrdIn.later {w w' : World} (h : OrdIn w 1) (hb : Below w.heap.size w w') (h0 : 1 < w.heap.size) : OrdIn w' 1 :=
  h.kp (Kp.below hb w.heap.size (.slice none 0 0)) (by omega) (by simp [Value.ownBlock])

theorem ans_def {T S : ByteArray} (h : DefOk T S) : infAns S = .tuple #[.string T, .int .i64 (S.size : Nat), .int .i64 0] := by
  obtain ⟨p, hr, hp⟩ := h.run
  unfold infAns
  rw [hr]
  simp only [if_true, hp]

/-- Of fewer bytes: the end is met, with a first part of the text. -/
theorem ans_cut {T S : ByteArray} (h : DefOk T S) {k : Nat} (hk : k < S.size) : ∃ t : ByteArray, infAns (S.extract 0 k) = .tuple #[.string t, .int .i64 0, .int .i64 2] ∧ begB t T = true ∧ t.size ≤ T.size := by
  obtain ⟨p, hr, hp⟩ := h.run
  have hz : (S.extract 0 k).size = k := by rw [ByteArray.size_extract]; omega
  rcases run_mono (pfx_cut S k) with e | ⟨e1, e2⟩
  · exfalso
    have hf := (runF_fit (S.extract 0 k)).pos
    rw [e, hr, hz] at hf
    have hf' : p ≤ 8 * k := hf
    omega
  · rw [hr] at e2
    refine ⟨⟨(runF (S.extract 0 k)).text.toArray⟩, ?_, ?_, ?_⟩
    · unfold infAns
      rw [if_neg (by rw [e1]; omega), if_pos e1]
    · unfold begB
      rw [decide_eq_true_iff]
      simpa using e2
    · have := e2.length_le
      have h2 : T.data.toList.length = T.size := Array.length_toList
      show (runF (S.extract 0 k)).text.toArray.size ≤ _
      simp only [List.size_toArray]
      show _ ≤ _
      have h3 : (⟨p, T.data.toList, 0, true⟩ : St).text.length = T.size := h2
      omega

/-- Of more bytes: the same. -/
theorem ans_app {T S : ByteArray} (h : DefOk T S) (b : ByteArray) : infAns (S ++ b) = .tuple #[.string T, .int .i64 (S.size : Nat), .int .i64 0] := by
  have e : runF S = runF (S ++ b) := by
    rcases run_mono (pfx_app S b) with e | ⟨e1, _⟩
    · exact e
    · obtain ⟨p, hr, _⟩ := h.run
      rw [hr] at e1
      exact absurd e1 (by simp)
  have h1 := ans_def h
  unfold infAns at h1 ⊢
  rw [← e]
  exact h1

set_option maxRecDepth 4000 in
set_option maxHeartbeats 2000000 in
theorem back_any (t : ByteArray) (a : Int) (b : ByteArray) (w : World) (ht : t.size ≤ maxLen) (ha1 : -9223372036854775808 ≤ a) (ha2 : a ≤ 9223372036854775807) (hb : b.size ≤ 140737488355328) (h0 : 1 < w.heap.size) (hord : OrdIn w 1) :
    Calls Tryd.prog 5 #[.string t, .int .i64 a, .string b] w fun e w' => e = .returned (.bool true) ∧ Below w.heap.size w w' := by
  have hT := cutB_size t
  go_enter Tryd.func5, Tryd.ntmps5
  go_wp2_with fail
  refine (cut_any t w ht).mono ?_
  rintro e w0 ⟨rfl, rfl⟩
  generalize cutB t = T at hT ⊢
  go_wp2_with fail
  refine (deflate_any T _).mono ?_
  rintro e w1 (⟨hT2, _, _⟩ | ⟨_, S, hD, rfl, hb1⟩)
  · omega
  have hord1 := hord.later hb1 h0
  have h01 := Nat.lt_of_lt_of_le h0 hb1.size
  have hle := hD.len
  have hone := hD.one
  go_wp2_with fail
  refine (ginflate_any S _ (by omega) h01 hord1).mono ?_
  rintro e w2 ⟨rfl, hb2⟩
  rw [ans_def hD]
  have hord2 := hord1.later hb2 h01
  have h02 := Nat.lt_of_lt_of_le h01 hb2.size
  have hB2 := hb1.trans (hb2.mono hb1.size)
  clear hord1 hb1 hb2
  have hz0 : ((S.size : Int) == 0) = false := by rw [beq_eq_false_iff_ne]; omega
  go_wp2_with fail
  refine (pick_any a (S.size : Nat) _ ha1 ha2 (by omega) (by omega)).mono ?_
  rintro e w3 ⟨rfl, rfl⟩
  obtain ⟨k, hk⟩ := Int.eq_ofNat_of_zero_le (pickN_bd a (S.size : Nat) (by omega)).1
  have hk2 := (pickN_bd a (S.size : Nat) (by omega)).2
  rw [hk] at hk2 ⊢
  have hkS : k < S.size := by omega
  obtain ⟨p, hp1, hp2, hp3⟩ := ans_cut hD hkS
  clear hk hk2
  go_wp2_with fail
  refine (ginflate_any (S.extract 0 k) _ (by rw [ByteArray.size_extract]; omega) h02 hord2).mono ?_
  rintro e w4 ⟨rfl, hb4⟩
  rw [hp1]
  have hord4 := hord2.later hb4 h02
  have h04 := Nat.lt_of_lt_of_le h02 hb4.size
  have hB4 := hB2.trans (hb4.mono hB2.size)
  clear hord2 hB2 hb4 hp1
  go_wp2_with fail
  refine (ginflate_any (S ++ b) _ (by rw [ByteArray.size_append]; omega) h04 hord4).mono ?_
  rintro e w5 ⟨rfl, hb5⟩
  rw [ans_app hD]
  have hB5 := hB4.trans (hb5.mono hB4.size)
  clear hord4 hB4 hb5 hD hord
  go_wp2_with fail
  refine (begins_any p T _ (by unfold maxLen; omega) (by unfold maxLen; omega)).mono ?_
  rintro e w6 ⟨rfl, rfl⟩
  rw [hp2]
  go_wp2
  go_ret
  exact ⟨rfl, hB5⟩

end Go.Proofs.YtecddphahiadlaaDoor
