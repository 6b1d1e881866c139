/- The program's Read and Inflate. -/
import Derived.Test.YtnfghnolklhppaaDoorGRun
import Derived.Test.YtnfghnolklhppaaDoorInf
import Derived.Test.YtnfghnolklhppaaDoorGWhy
namespace Go.Proofs.YtnfghnolklhppaaDoor
open Go.RowKit

theorem conv_rd {B : Nat} {w : World} {gx : Nat} {s : ByteArray} {σ : St} {vt fx : Value} (h : Rd B w gx s σ vt fx) (q : Nat) : (convert 32 9 vt).run Tryd.prog (w.drewN q) = .ok (.string ⟨σ.text.toArray⟩) (w.drewN q) := by
  have ho := h.own
  obtain ⟨h1, h2⟩ := h.own
  rcases h2 with ⟨h2, h3⟩ | ⟨g, cap, cur, hv, _⟩
  · have e : σ.text = [] := List.eq_nil_of_length_eq_zero h3
    rw [h2, e]
    exact Go.Lib.run_convert_nil_bytes (P := Tryd.prog) _ 32 9 5 0 Tryd.underlying32 Tryd.underlying5 Tryd.underlying9
  · rw [hv]
    refine run_convert_bytes_back (P := Tryd.prog) (w.drewN q) 32 9 5 ⟨g, 0, none⟩ cap σ.text Tryd.underlying32 Tryd.underlying5 Tryd.underlying9 (fun j hj => ?_)
    have e := ho.cells (g := g) (by rw [hv]; rfl) j _ (byteVals_get σ.text j hj)
    have e2 : σ.text.getD j 0 = σ.text[j] := by rw [List.getD_eq_getElem?_getD, List.getElem?_eq_getElem hj]; rfl
    rw [e2] at e
    exact e

/-- What Read answers. -/
def readAns (σ : St) : Value :=
  if σ.why = 0 then .tuple #[.string ⟨σ.text.toArray⟩, .int .i64 ((σ.pos + 7) / 8 : Nat), .int .i64 0]
  else .tuple #[.string ⟨σ.text.toArray⟩, .int .i64 0, .int .i64 (σ.why : Nat)]

def rdAns (s : ByteArray) : Value := readAns (runF s)

def RdPost (w : World) (s : ByteArray) (e : Ending) (w' : World) : Prop := e = .returned (rdAns s) ∧ Below w.heap.size w w'

theorem read_start (w : World) (s : ByteArray) : Rd w.heap.size (w.alloc (.cells #[.string s, .int .i64 0, .int .i64 0, .slice none 0 0, .pointer none] 47)) w.heap.size s start (.slice none 0 0) (.pointer none) := by
  refine ⟨Nat.le_refl _, ?_, ⟨rfl, Or.inl ⟨rfl, rfl⟩⟩, by simp [Value.ownBlock]⟩
  exact World.rowIs_alloc w #[.string s, .int .i64 0, .int .i64 0, .slice none 0 0, .pointer none] 47 _ (fun i hi => by match i, hi with | 0, _ => rfl | 1, _ => rfl | 2, _ => rfl | 3, _ => rfl | 4, _ => rfl)

set_option maxRecDepth 8000 in
set_option maxHeartbeats 1000000 in
theorem read_any (s : ByteArray) (w : World) (hs : s.size ≤ 140737488400000) (h0 : 0 < w.heap.size) (hord : OrdIn w 0) :
    Calls Tryd.prog 13 #[.string s] w fun e w' => RdPost w s e w' := by
  have hr0 := read_start w s
  have hord1 := hord.kp (Kp.alloc w (.cells #[.string s, .int .i64 0, .int .i64 0, .slice none 0 0, .pointer none] 47) w.heap.size (.slice none 0 0)) (by omega) (by simp [Value.ownBlock])
  go_enter Tryd.func13, Tryd.ntmps13
  go_wp2_with fail
  refine (grun_any w.heap.size w.heap.size s start (.slice none 0 0) (.pointer none) _ hr0 (by simp) hs ⟨Nat.zero_le _, by show 0 ≤ 5000; omega⟩ rfl rfl h0 hord1 (Or.inl rfl)).mono ?_
  rintro e w1 ⟨he, vt, fx, h1, k1⟩
  have he2 : e = .returned (.int .i64 ((runF s).why : Nat)) := he
  have h1' : Rd w.heap.size w1 w.heap.size s (runF s) vt fx := h1
  clear he h1 hr0 hord1
  subst he2
  have hb1 : Below w.heap.size w w1 := ⟨k1.os, k1.tape, k1.output, by have := k1.size; simp at this; omega, fun b hb => (k1.block b (by simp; omega) (by omega) (by simp [Value.ownBlock])).trans (Below.heap_alloc w _ b hb)⟩
  have d3 := h1'.c3
  have cv0 : (convert 32 9 vt).run Tryd.prog w1 = .ok (.string ⟨(runF s).text.toArray⟩) w1 := conv_rd h1' 0
  have cv1 : (convert 32 9 vt).run Tryd.prog w1.drew = .ok (.string ⟨(runF s).text.toArray⟩) w1.drew := conv_rd h1' 1
  have hrd := h1'.drew
  have HANS : Hid (rdAns s = if (runF s).why = 0 then .tuple #[.string ⟨(runF s).text.toArray⟩, .int .i64 (((runF s).pos + 7) / 8 : Nat), .int .i64 0] else .tuple #[.string ⟨(runF s).text.toArray⟩, .int .i64 0, .int .i64 ((runF s).why : Nat)]) := rfl
  have hp := (runF_fit s).pos
  have hb1d : Below w.heap.size w w1.drew := hb1.drew
  clear k1
  generalize runF s = σ at h1' d3 cv0 cv1 hrd HANS hp ⊢
  by_cases hy : σ.why = 0
  · have e3 : ((σ.why : Int) == 0) = true := by rw [beq_iff_eq]; omega
    have HE : Hid (rdAns s = .tuple #[.string ⟨σ.text.toArray⟩, .int .i64 ((σ.pos + 7) / 8 : Nat), .int .i64 0]) := by show _ = _; rw [HANS.out, if_pos hy]
    clear HANS
    go_wp2_with fail
    go_region_with (go_at_call 17; refine (taken_any w.heap.size w.heap.size s σ vt fx _ (by first | exact h1' | exact hrd) (by omega)).mono ?_; rintro e w2 ⟨rfl, rfl⟩)
    all_goals
      go_wp2
      go_ret3
      exact ⟨by rw [HE.out]; first | rfl | (simp; done), by first | exact hb1 | exact hb1d⟩
  · have e3 : ((σ.why : Int) == 0) = false := by rw [beq_eq_false_iff_ne]; omega
    have HE : Hid (rdAns s = .tuple #[.string ⟨σ.text.toArray⟩, .int .i64 0, .int .i64 (σ.why : Nat)]) := by show _ = _; rw [HANS.out, if_neg hy]
    clear HANS hy h1' hrd hord hb1d cv1 hp
    obtain ⟨gx, hgx⟩ : ∃ gx, gx = w.heap.size := ⟨_, rfl⟩
    rw [← hgx] at d3 ⊢
    clear hgx
    go_wp2
    go_ret3
    exact ⟨by rw [HE.out]; rfl, hb1⟩

set_option maxRecDepth 4000 in
set_option maxHeartbeats 1000000 in
theorem ginflate_any (s : ByteArray) (w : World) (hs : s.size ≤ 140737488400000) (h0 : 0 < w.heap.size) (hord : OrdIn w 0) :
    Calls Tryd.prog 6 #[.string s] w fun e w' => InfPost w s e w' := by
  go_enter Tryd.func6, Tryd.ntmps6
  go_wp2_with fail
  refine (read_any s w hs h0 hord).mono ?_
  rintro e w1 ⟨he, hb1⟩
  have HANS : Hid (infAns s = if (runF s).why = 0 then .tuple #[.string ⟨(runF s).text.toArray⟩, .int .i64 (((runF s).pos + 7) / 8 : Nat), .int .i64 0] else if (runF s).why = 2 then .tuple #[.string ⟨(runF s).text.toArray⟩, .int .i64 0, .int .i64 2] else .tuple #[.string .empty, .int .i64 0, .int .i64 ((runF s).why : Nat)]) := rfl
  have HR : rdAns s = if (runF s).why = 0 then .tuple #[.string ⟨(runF s).text.toArray⟩, .int .i64 (((runF s).pos + 7) / 8 : Nat), .int .i64 0] else .tuple #[.string ⟨(runF s).text.toArray⟩, .int .i64 0, .int .i64 ((runF s).why : Nat)] := rfl
  have hw := (runF_wy s).le
  rw [HR] at he
  clear HR
  generalize runF s = σ at he HANS hw
  by_cases hy : σ.why = 0
  · rw [if_pos hy] at he
    have HE : Hid (infAns s = .tuple #[.string ⟨σ.text.toArray⟩, .int .i64 ((σ.pos + 7) / 8 : Nat), .int .i64 0]) := by show _ = _; rw [HANS.out, if_pos hy]
    clear HANS hy hw
    subst he
    go_wp2
    go_ret3
    exact ⟨by rw [HE.out]; rfl, hb1⟩
  · rw [if_neg hy] at he
    by_cases hy2 : σ.why = 2
    · have HE : Hid (infAns s = .tuple #[.string ⟨σ.text.toArray⟩, .int .i64 0, .int .i64 2]) := by show _ = _; rw [HANS.out, if_neg hy, if_pos hy2]
      rw [hy2] at he
      clear HANS hy hw hy2
      subst he
      go_wp2
      go_ret3
      exact ⟨by rw [HE.out]; rfl, hb1⟩
    · have HE : Hid (infAns s = .tuple #[.string .empty, .int .i64 0, .int .i64 (σ.why : Nat)]) := by show _ = _; rw [HANS.out, if_neg hy, if_neg hy2]
      by_cases hy1 : σ.why = 1
      · rw [hy1] at he HE
        clear HANS hy hw hy2 hy1
        subst he
        go_wp2
        go_ret3
        exact ⟨by rw [HE.out]; rfl, hb1⟩
      · have hy3 : σ.why = 3 := by omega
        rw [hy3] at he HE
        clear HANS hy hw hy2 hy1 hy3
        subst he
        go_wp2
        go_ret3
        exact ⟨by rw [HE.out]; rfl, hb1⟩

end Go.Proofs.YtnfghnolklhppaaDoor
