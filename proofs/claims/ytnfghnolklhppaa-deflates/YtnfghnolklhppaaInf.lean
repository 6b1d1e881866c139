/- The document's Inflate. -/
import Derived.Test.YtnfghnolklhppaaRun
import Derived.Lib.BufferRead
namespace Go.Proofs.Ytnfghnolklhppaa
open Go.RowKit

theorem conv_text {B : Nat} {w : World} {gx : Nat} {s : ByteArray} {σ : St} {vt : Value} (h : Str B w gx s σ vt) (q : Nat) : (convert 57 9 vt).run Try.prog (w.drewN q) = .ok (.string ⟨σ.text.toArray⟩) (w.drewN q) := by
  have ho := h.own
  obtain ⟨h1, h2⟩ := h.own
  rcases h2 with ⟨h2, h3⟩ | ⟨g, cap, cur, hv, _⟩
  · have e : σ.text = [] := List.eq_nil_of_length_eq_zero h3
    rw [h2, e]
    exact Go.Lib.run_convert_nil_bytes (P := Try.prog) _ 57 9 5 0 Try.underlying57 Try.underlying5 Try.underlying9
  · rw [hv]
    refine run_convert_bytes_back (P := Try.prog) (w.drewN q) 57 9 5 ⟨g, 0, none⟩ cap σ.text Try.underlying57 Try.underlying5 Try.underlying9 (fun j hj => ?_)
    have e := ho.cells (g := g) (by rw [hv]; rfl) j _ (byteVals_get σ.text j hj)
    have e2 : σ.text.getD j 0 = σ.text[j] := by rw [List.getD_eq_getElem?_getD, List.getElem?_eq_getElem hj]; rfl
    rw [e2] at e
    exact e

/-- What the document answers. -/
def infAns (s : ByteArray) : Value :=
  if (runF s).why = 0 then .tuple #[.string ⟨(runF s).text.toArray⟩, .int .i64 (((runF s).pos + 7) / 8 : Nat), .int .i64 0]
  else if (runF s).why = 2 then .tuple #[.string ⟨(runF s).text.toArray⟩, .int .i64 0, .int .i64 2]
  else .tuple #[.string .empty, .int .i64 0, .int .i64 ((runF s).why : Nat)]

def InfPost (w : World) (s : ByteArray) (e : Ending) (w' : World) : Prop := e = .returned (infAns s) ∧ Below w.heap.size w w'

set_option maxHeartbeats 1000000 in
theorem inflate_any (s : ByteArray) (w : World) (hs : s.size ≤ 140737488355328) :
    Calls Try.prog 13 #[.string s] w fun e w' => InfPost w s e w' := by
  go_enter Try.func13, Try.ntmps13
  go_wp2_with fail
  refine (run_any s _ hs).mono ?_
  rintro e w1 ⟨vt, rfl, h1, hb1⟩
  have d1 := h1.c1
  have d2 := h1.c2
  have d3 := h1.c3
  have cv0 : (convert 57 9 vt).run Try.prog w1 = .ok (.string ⟨(runF s).text.toArray⟩) w1 := conv_text h1 0
  have cv1 : (convert 57 9 vt).run Try.prog w1.drew = .ok (.string ⟨(runF s).text.toArray⟩) w1.drew := conv_text h1 1
  have HANS : Hid (infAns s = if (runF s).why = 0 then .tuple #[.string ⟨(runF s).text.toArray⟩, .int .i64 (((runF s).pos + 7) / 8 : Nat), .int .i64 0] else if (runF s).why = 2 then .tuple #[.string ⟨(runF s).text.toArray⟩, .int .i64 0, .int .i64 2] else .tuple #[.string .empty, .int .i64 0, .int .i64 ((runF s).why : Nat)]) := rfl
  have hp := (runF_fit s).pos
  have hb1d : Below w.heap.size w w1.drew := hb1.drew
  clear h1
  generalize runF s = σ at d1 d2 d3 cv0 cv1 HANS hp
  obtain ⟨gx, hgx⟩ : ∃ gx, gx = w.heap.size := ⟨_, rfl⟩
  rw [← hgx] at d1 d2 d3 ⊢
  clear hgx
  by_cases hy : σ.why = 0
  · have e3 : ((σ.why : Int) == 0) = true := by rw [beq_iff_eq]; omega
    have HE : Hid (infAns s = .tuple #[.string ⟨σ.text.toArray⟩, .int .i64 ((σ.pos + 7) / 8 : Nat), .int .i64 0]) := by show _ = _; rw [HANS.out, if_pos hy]
    have hdv : ((σ.pos : Int) + 7) / 8 = (((σ.pos + 7) / 8 : Nat) : Int) := by omega
    clear HANS hy
    go_wp2_with fail
    go_region
    all_goals
      go_wp2
      go_ret3
      exact ⟨by rw [HE.out]; first | rfl | (simp; done) | (simp [hdv]; done) | (simp; omega), hb1d⟩
  · have e3 : ((σ.why : Int) == 0) = false := by rw [beq_eq_false_iff_ne]; omega
    by_cases hy2 : σ.why = 2
    · have e4 : ((σ.why : Int) == 2) = true := by rw [beq_iff_eq]; omega
      have HE : Hid (infAns s = .tuple #[.string ⟨σ.text.toArray⟩, .int .i64 0, .int .i64 2]) := by show _ = _; rw [HANS.out, if_neg hy, if_pos hy2]
      clear HANS hy hy2
      go_wp2
      go_ret3
      exact ⟨by rw [HE.out]; rfl, hb1⟩
    · have e4 : ((σ.why : Int) == 2) = false := by rw [beq_eq_false_iff_ne]; omega
      have HE : Hid (infAns s = .tuple #[.string .empty, .int .i64 0, .int .i64 (σ.why : Nat)]) := by show _ = _; rw [HANS.out, if_neg hy, if_neg hy2]
      clear HANS hy hy2
      go_wp2_with fail
      go_region
      all_goals
        go_wp2
        go_ret3
        exact ⟨by rw [HE.out]; rfl, hb1d⟩

end Go.Proofs.Ytnfghnolklhppaa
