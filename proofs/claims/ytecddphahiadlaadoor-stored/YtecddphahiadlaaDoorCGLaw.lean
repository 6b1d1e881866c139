import Derived.Test.YtecddphahiadlaaDoorCGInf
/- The document's own example, reckoned. -/
namespace Go.Proofs.YtecddphahiadlaaDoor
open Go.RowKit

set_option maxRecDepth 100000 in
set_option maxHeartbeats 0 in
theorem run_a : runF ⟨#[75, 4, 0]⟩ = ⟨18, [97], 0, true⟩ := by kernel_rfl

theorem inf_a : infAns ⟨#[75, 4, 0]⟩ = .tuple #[.string ⟨#[97]⟩, .int .i64 3, .int .i64 0] := by
  have h : infAns ⟨#[75, 4, 0]⟩ = if (runF ⟨#[75, 4, 0]⟩).why = 0 then .tuple #[.string ⟨(runF ⟨#[75, 4, 0]⟩).text.toArray⟩, .int .i64 (((runF ⟨#[75, 4, 0]⟩).pos + 7) / 8 : Nat), .int .i64 0] else if (runF ⟨#[75, 4, 0]⟩).why = 2 then .tuple #[.string ⟨(runF ⟨#[75, 4, 0]⟩).text.toArray⟩, .int .i64 0, .int .i64 2] else .tuple #[.string .empty, .int .i64 0, .int .i64 ((runF ⟨#[75, 4, 0]⟩).why : Nat)] := rfl
  rw [h, run_a]
  rfl

end Go.Proofs.YtecddphahiadlaaDoor

/- Inflates: the program's answer is the document's. -/
namespace Go.Proofs.YtecddphahiadlaaDoor
open Go.RowKit

theorem inf_form (s : ByteArray) : ∃ (t : ByteArray) (n e : Int), infAns s = .tuple #[.string t, .int .i64 n, .int .i64 e] := by
  unfold infAns
  split
  · exact ⟨_, _, _, rfl⟩
  · split
    · exact ⟨_, _, _, rfl⟩
    · exact ⟨_, _, _, rfl⟩

theorem num_any (x : Int) (w : World) : Calls Tryd.prog 9 #[.int .i64 x] w fun e w' => e = .returned (.int .i64 x) ∧ w' = w := by
  go_enter Tryd.func9, Tryd.ntmps9
  go_wp2
  go_ret
  exact ⟨rfl, rfl⟩

theorem OrdIn.below {w w' : World} (h : OrdIn w 1) (hb : Below w.heap.size w w') (h0 : 1 < w.heap.size) : OrdIn w' 1 :=
  h.kp (Kp.below hb w.heap.size (.slice none 0 0)) (by omega) (by simp [Value.ownBlock])

set_option maxRecDepth 4000 in
set_option maxHeartbeats 1000000 in
theorem inflates_any (s : ByteArray) (w : World) (hs : s.size ≤ 140737488400000) (h0 : 1 < w.heap.size) (hord : OrdIn w 1) :
    Calls Tryd.prog 3 #[.string s] w fun e w' => e = .returned (.bool true) ∧ Below w.heap.size w w' := by
  obtain ⟨t, n, e, hf⟩ := inf_form s
  go_enter Tryd.func3, Tryd.ntmps3
  go_wp2_with fail
  refine (ginflate_any s w hs h0 hord).mono ?_
  rintro e1 w1 ⟨he1, hb1⟩
  rw [hf] at he1
  subst he1
  have hord1 := hord.below hb1 h0
  have h01 := Nat.lt_of_lt_of_le h0 hb1.size
  go_wp2_with fail
  refine (inflate_any s w1 hs).mono ?_
  rintro e2 w2 ⟨he2, hb2⟩
  rw [hf] at he2
  subst he2
  have hord2 := hord1.below hb2 h01
  have h02 := Nat.lt_of_lt_of_le h01 hb2.size
  have hB2 : Below w.heap.size w w2 := hb1.trans (hb2.mono hb1.size)
  go_wp2_with fail
  refine (ginflate_any ⟨#[75, 4, 0]⟩ w2 (by show 3 ≤ _; omega) h02 hord2).mono ?_
  rintro e3 w3 ⟨he3, hb3⟩
  rw [inf_a] at he3
  subst he3
  have hB3 : Below w.heap.size w w3 := hB2.trans (hb3.mono (Nat.le_trans hb1.size hb2.size))
  clear hord1 hord2 hb1 hb2 hb3 hord hB2
  go_wp2_with fail
  refine (num_any e w3).mono ?_
  rintro e4 w4 ⟨rfl, rfl⟩
  go_wp2
  go_ret
  exact ⟨rfl, hB3⟩

end Go.Proofs.YtecddphahiadlaaDoor
