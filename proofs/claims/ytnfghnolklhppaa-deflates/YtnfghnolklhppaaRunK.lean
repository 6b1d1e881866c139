/- The document's stream: its block when it begins and ends; a block of symbols without codes. -/
import Derived.Test.YtnfghnolklhppaaRunF
import Derived.Test.YtnfghnolklhppaaSyms
import Derived.Test.YtnfghnolklhppaaLensK
namespace Go.Proofs.Ytnfghnolklhppaa
open Go.RowKit

theorem Str.setFin {B : Nat} {w : World} {gx : Nat} {s : ByteArray} {σ : St} {vt : Value} (h : Str B w gx s σ vt) (b : Bool) : Str B (w.setCell ⟨gx, 4, none⟩ (.bool b)) gx s { σ with fin := b } vt := by
  refine ⟨h.le, (h.row.set 4 _).congr (fun i hi => ?_), own_of_block h.own (fun g hg => Below.heap_setCell _ _ _ _ (fun e => h.ne (by rw [hg, e]))), h.ne⟩
  by_cases e : i = 4
  · subst e; simp
  · rw [if_neg e]
    by_cases e0 : i = 0
    · rw [if_pos e0, if_pos e0]
    · rw [if_neg e0, if_neg e0]
      by_cases e1 : i = 1
      · rw [if_pos e1, if_pos e1]
      · rw [if_neg e1, if_neg e1]
        by_cases e2 : i = 2
        · rw [if_pos e2, if_pos e2]
        · rw [if_neg e2, if_neg e2]
          by_cases e3 : i = 3
          · rw [if_pos e3, if_pos e3]
          · omega

theorem Str.begin (w : World) (s : ByteArray) : Str w.heap.size (w.alloc (.cells #[.string s, .int .i64 0, .slice none 0 0, .int .i64 0, .bool false] 59)) w.heap.size s start (.slice none 0 0) := by
  refine ⟨Nat.le_refl _, ?_, World.ownsRow_nil _ _ _ _, by simp [Value.ownBlock]⟩
  refine World.rowIs_alloc w #[.string s, .int .i64 0, .slice none 0 0, .int .i64 0, .bool false] 59 _ (fun i hi => ?_)
  have hi' : i < 5 := hi
  match i, hi' with
  | 0, _ => rfl
  | 1, _ => rfl
  | 2, _ => rfl
  | 3, _ => rfl
  | 4, _ => rfl
  | i + 5, h => exact absurd h (by omega)

set_option maxRecDepth 4000 in
theorem coded_dead (B gx : Nat) (s : ByteArray) (σ : St) (vt : Value) (w : World) (h : Str B w gx s σ vt) (hy : σ.why ≠ 0) :
    Calls Try.prog 33 #[.pointer (some ⟨gx, 0, none⟩), .slice none 0 0, .slice none 0 0] w fun e w' => e = .returned (.tuple #[]) ∧ w' = w := by
  have d3 := h.c3
  have e3 : ((σ.why : Int) == 0) = false := by rw [beq_eq_false_iff_ne]; omega
  clear hy
  go_enter Try.func33, Try.ntmps33
  go_wp2_with fail
  go_loop [6, 7] (fun t i => t = .int .i64 0 ∧ i = .int .i64 0) (fun _ _ => 0)
  case atStart => exact ⟨rfl, rfl⟩
  case round =>
    obtain ⟨rfl, rfl⟩ := hrel
    go_wp2_with fail
    go_loop [8] (fun _ => True) (fun _ => 0)
    case atStart => exact trivial
    case round =>
      go_wp2
      go_end0
      exact ⟨rfl, rfl⟩

theorem runGo_end {s : ByteArray} {σ : St} (h : ¬ (σ.why = 0 ∧ σ.fin = false)) (f : Nat) : runGo s f σ = σ := by
  cases f with
  | zero => rfl
  | succ f => simp only [runGo]; rw [if_neg h]

/-- The state of the loop over the blocks. -/
structure RG (w1 wr : World) (gx : Nat) (s : ByteArray) (f : Nat) (σ : St) : Prop where
  fit : Fit s σ
  runs : Runs gx w1 wr gx s (.slice none 0 0) σ
  few : restN s σ ≤ f
  eq : runGo s f σ = runF s

theorem RG.fin {w1 wr : World} {gx : Nat} {s : ByteArray} {f : Nat} {σ : St} (h : RG w1 wr gx s f σ) (he : ¬ (σ.why = 0 ∧ σ.fin = false)) : Runs gx w1 wr gx s (.slice none 0 0) (runF s) := by
  rw [← h.eq, runGo_end he]; exact h.runs

theorem rg_last {w1 wr w2 : World} {gx : Nat} {s : ByteArray} {f : Nat} {σ : St} {vt : Value} (h : RG w1 wr gx s f σ) (hy : σ.why = 0) (hfi : σ.fin = false) (hkp : Kp w1 wr gx (.slice none 0 0)) (hfr : ∀ g, vt.ownBlock = some g → Value.ownBlock (.slice none 0 0) = some g ∨ w1.heap.size ≤ g)
    (h2 : Str gx w2 gx s (numF s 2 (bitF s σ).2).2 vt) (k2 : Kp wr w2 gx vt) (hd : (numF s 2 (bitF s σ).2).2.why ≠ 0) : Runs gx w1 w2 gx s (.slice none 0 0) (runF s) := by
  have hf : 1 ≤ f := by have := h.few; unfold restN at this; rw [if_pos hy] at this; omega
  obtain ⟨f', rfl⟩ : ∃ f', f = f' + 1 := ⟨f - 1, by omega⟩
  have e := h.eq
  have e2 : runStep s σ = (true, (numF s 2 (bitF s σ).2).2) := by unfold runStep; rw [if_pos hd]
  simp only [runGo] at e
  rw [if_pos ⟨hy, hfi⟩, e2, if_pos rfl] at e
  rw [← e]
  exact Runs.trans hkp hfr ⟨vt, h2, k2, fun _ hg => Or.inl hg⟩

theorem rg_next {w1 wr w2 w5 : World} {gx : Nat} {s : ByteArray} {f : Nat} {σ σ5 : St} {vt vt5 : Value} {b : Bool} (h : RG w1 wr gx s f σ) (hy : σ.why = 0) (hfi : σ.fin = false) (hkp : Kp w1 wr gx (.slice none 0 0)) (hfr : ∀ g, vt.ownBlock = some g → Value.ownBlock (.slice none 0 0) = some g ∨ w1.heap.size ≤ g)
    (k2 : Kp wr w2 gx vt) (hd : (numF s 2 (bitF s σ).2).2.why = 0) (h5e : σ5 = blockF s (numF s 2 (bitF s σ).2).1 (numF s 2 (bitF s σ).2).2)
    (h5 : Str gx w5 gx s σ5 vt5) (k5 : Kp w2 w5 gx vt) (f5 : ∀ g, vt5.ownBlock = some g → vt.ownBlock = some g ∨ w2.heap.size ≤ g) (hb : b = decide (σ5.why = 0 ∧ (bitF s σ).1 = 1)) :
    1 ≤ f ∧ RG w1 (w5.setCell ⟨gx, 4, none⟩ (.bool b)) gx s (f - 1) { σ5 with fin := b } := by
  have e2 : runStep s σ = (false, { σ5 with fin := b }) := by unfold runStep; rw [if_neg (by omega), h5e, hb, h5e]
  have hl := runStep_rest h.fit hy (by rw [e2])
  have hfw := h.few
  rw [e2] at hl
  obtain ⟨f', rfl⟩ : ∃ f', f = f' + 1 := ⟨f - 1, by omega⟩
  have e := h.eq
  have ft := runStep_fit (s := s) h.fit
  rw [e2] at ft
  simp only [runGo] at e
  rw [if_pos ⟨hy, hfi⟩, e2, if_neg (by simp)] at e
  refine ⟨by omega, ft, ?_, by simp only at hl; omega, e⟩
  exact Runs.trans hkp hfr (Runs.trans k2 (fun _ hg => Or.inl hg) ⟨vt5, h5.setFin b, k5.set 4 _, f5⟩)

/-- What Run gives. -/
def RunPost (w : World) (s : ByteArray) (e : Ending) (w' : World) : Prop :=
  ∃ vt, e = .returned (.pointer (some ⟨w.heap.size, 0, none⟩)) ∧ Str w.heap.size w' w.heap.size s (runF s) vt ∧ Below w.heap.size w w'

theorem run_post {w : World} {s : ByteArray} {o : Obj} {w' : World} (h : Runs w.heap.size (w.alloc o) w' w.heap.size s (.slice none 0 0) (runF s)) : RunPost w s (.returned (.pointer (some ⟨w.heap.size, 0, none⟩))) w' := by
  obtain ⟨vt, h1, k1, _⟩ := h
  refine ⟨vt, rfl, h1, k1.os, k1.tape, k1.output, ?_, fun b hb => ?_⟩
  · have := k1.size; simp at this; omega
  · exact (k1.block b (by simp; omega) (by omega) (by simp [Value.ownBlock])).trans (Below.heap_alloc w o b hb)

end Go.Proofs.Ytnfghnolklhppaa
