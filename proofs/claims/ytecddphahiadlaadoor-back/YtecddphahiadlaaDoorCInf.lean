import Derived.Test.YtecddphahiadlaaDoorCRunF
import Derived.Test.YtecddphahiadlaaDoorCSyms
import Derived.Test.YtecddphahiadlaaDoorCLens
import Derived.Test.YtecddphahiadlaaDoorCOwnR
import Derived.Lib.BufferRead
/- The document's stream: its block when it begins and ends; a block of symbols without codes. -/
namespace Go.Proofs.YtecddphahiadlaaDoor
open Go.RowKit

theorem Str.setFin {B : Nat} {w : World} {gx : Nat} {s : ByteArray} {σ : St} {vt : Value} (h : Str B w gx s σ vt) (b : Bool) : Str B (w.setCell ⟨gx, 4, none⟩ (.bool b)) gx s { σ with fin := b } vt := by
  refine ⟨h.le, (h.row.set 4 _).congr (fun i hi => ?_), own_of_block h.own (fun g hg => Below.heap_setCell _ _ _ _ (fun e => h.ne (by rw [hg, e]))), h.ne⟩
  by_cases e : i = 4
  · subst e; simp
  · rw [if_neg e]
    by_cases e0 : i = 0
    · rw [if_pos e0, if_pos e0]
    · rw [if_neg e0, if_neg e0]
      by_cases e1 : i = 1
      · rw [if_pos e1, if_pos e1]
      · rw [if_neg e1, if_neg e1]
        by_cases e2 : i = 2
        · rw [if_pos e2, if_pos e2]
        · rw [if_neg e2, if_neg e2]
          by_cases e3 : i = 3
          · rw [if_pos e3, if_pos e3]
          · omega

theorem Str.begin (w : World) (s : ByteArray) : Str w.heap.size (w.alloc (.cells #[.string s, .int .i64 0, .slice none 0 0, .int .i64 0, .bool false] 56)) w.heap.size s start (.slice none 0 0) := by
  refine ⟨Nat.le_refl _, ?_, World.ownsRow_nil _ _ _ _, by simp [Value.ownBlock]⟩
  refine World.rowIs_alloc w #[.string s, .int .i64 0, .slice none 0 0, .int .i64 0, .bool false] 56 _ (fun i hi => ?_)
  have hi' : i < 5 := hi
  match i, hi' with
  | 0, _ => rfl
  | 1, _ => rfl
  | 2, _ => rfl
  | 3, _ => rfl
  | 4, _ => rfl
  | i + 5, h => exact absurd h (by omega)

set_option maxRecDepth 4000 in
theorem coded_dead (B gx : Nat) (s : ByteArray) (σ : St) (vt : Value) (w : World) (h : Str B w gx s σ vt) (hy : σ.why ≠ 0) :
    Calls Tryd.prog 39 #[.pointer (some ⟨gx, 0, none⟩), .slice none 0 0, .slice none 0 0] w fun e w' => e = .returned (.tuple #[]) ∧ w' = w := by
  have d3 := h.c3
  have e3 : ((σ.why : Int) == 0) = false := by rw [beq_eq_false_iff_ne]; omega
  clear hy
  go_enter Tryd.func39, Tryd.ntmps39
  go_wp2_with fail
  go_loop [6, 7] (fun t i => t = .int .i64 0 ∧ i = .int .i64 0) (fun _ _ => 0)
  case atStart => exact ⟨rfl, rfl⟩
  case round =>
    obtain ⟨rfl, rfl⟩ := hrel
    go_wp2_with fail
    go_loop [8] (fun _ => True) (fun _ => 0)
    case atStart => exact trivial
    case round =>
      go_wp2
      go_end0
      exact ⟨rfl, rfl⟩

theorem runGo_end {s : ByteArray} {σ : St} (h : ¬ (σ.why = 0 ∧ σ.fin = false)) (f : Nat) : runGo s f σ = σ := by
  cases f with
  | zero => rfl
  | succ f => simp only [runGo]; rw [if_neg h]

/-- The state of the loop over the blocks. -/
structure RG (w1 wr : World) (gx : Nat) (s : ByteArray) (f : Nat) (σ : St) : Prop where
  fit : Fit s σ
  runs : Runs gx w1 wr gx s (.slice none 0 0) σ
  few : restN s σ ≤ f
  eq : runGo s f σ = runF s

theorem RG.fin {w1 wr : World} {gx : Nat} {s : ByteArray} {f : Nat} {σ : St} (h : RG w1 wr gx s f σ) (he : ¬ (σ.why = 0 ∧ σ.fin = false)) : Runs gx w1 wr gx s (.slice none 0 0) (runF s) := by
  rw [← h.eq, runGo_end he]; exact h.runs

theorem rg_last {w1 wr w2 : World} {gx : Nat} {s : ByteArray} {f : Nat} {σ : St} {vt : Value} (h : RG w1 wr gx s f σ) (hy : σ.why = 0) (hfi : σ.fin = false) (hkp : Kp w1 wr gx (.slice none 0 0)) (hfr : ∀ g, vt.ownBlock = some g → Value.ownBlock (.slice none 0 0) = some g ∨ w1.heap.size ≤ g)
    (h2 : Str gx w2 gx s (numF s 2 (bitF s σ).2).2 vt) (k2 : Kp wr w2 gx vt) (hd : (numF s 2 (bitF s σ).2).2.why ≠ 0) : Runs gx w1 w2 gx s (.slice none 0 0) (runF s) := by
  have hf : 1 ≤ f := by have := h.few; unfold restN at this; rw [if_pos hy] at this; omega
  obtain ⟨f', rfl⟩ : ∃ f', f = f' + 1 := ⟨f - 1, by omega⟩
  have e := h.eq
  have e2 : runStep s σ = (true, (numF s 2 (bitF s σ).2).2) := by unfold runStep; rw [if_pos hd]
  simp only [runGo] at e
  rw [if_pos ⟨hy, hfi⟩, e2, if_pos rfl] at e
  rw [← e]
  exact Runs.trans hkp hfr ⟨vt, h2, k2, fun _ hg => Or.inl hg⟩

theorem rg_next {w1 wr w2 w5 : World} {gx : Nat} {s : ByteArray} {f : Nat} {σ σ5 : St} {vt vt5 : Value} {b : Bool} (h : RG w1 wr gx s f σ) (hy : σ.why = 0) (hfi : σ.fin = false) (hkp : Kp w1 wr gx (.slice none 0 0)) (hfr : ∀ g, vt.ownBlock = some g → Value.ownBlock (.slice none 0 0) = some g ∨ w1.heap.size ≤ g)
    (k2 : Kp wr w2 gx vt) (hd : (numF s 2 (bitF s σ).2).2.why = 0) (h5e : σ5 = blockF s (numF s 2 (bitF s σ).2).1 (numF s 2 (bitF s σ).2).2)
    (h5 : Str gx w5 gx s σ5 vt5) (k5 : Kp w2 w5 gx vt) (f5 : ∀ g, vt5.ownBlock = some g → vt.ownBlock = some g ∨ w2.heap.size ≤ g) (hb : b = decide (σ5.why = 0 ∧ (bitF s σ).1 = 1)) :
    1 ≤ f ∧ RG w1 (w5.setCell ⟨gx, 4, none⟩ (.bool b)) gx s (f - 1) { σ5 with fin := b } := by
  have e2 : runStep s σ = (false, { σ5 with fin := b }) := by unfold runStep; rw [if_neg (by omega), h5e, hb, h5e]
  have hl := runStep_rest h.fit hy (by rw [e2])
  have hfw := h.few
  rw [e2] at hl
  obtain ⟨f', rfl⟩ : ∃ f', f = f' + 1 := ⟨f - 1, by omega⟩
  have e := h.eq
  have ft := runStep_fit (s := s) h.fit
  rw [e2] at ft
  simp only [runGo] at e
  rw [if_pos ⟨hy, hfi⟩, e2, if_neg (by simp)] at e
  refine ⟨by omega, ft, ?_, by simp only at hl; omega, e⟩
  exact Runs.trans hkp hfr (Runs.trans k2 (fun _ hg => Or.inl hg) ⟨vt5, h5.setFin b, k5.set 4 _, f5⟩)

/-- What Run gives. -/
def RunPost (w : World) (s : ByteArray) (e : Ending) (w' : World) : Prop :=
  ∃ vt, e = .returned (.pointer (some ⟨w.heap.size, 0, none⟩)) ∧ Str w.heap.size w' w.heap.size s (runF s) vt ∧ Below w.heap.size w w'

theorem run_post {w : World} {s : ByteArray} {o : Obj} {w' : World} (h : Runs w.heap.size (w.alloc o) w' w.heap.size s (.slice none 0 0) (runF s)) : RunPost w s (.returned (.pointer (some ⟨w.heap.size, 0, none⟩))) w' := by
  obtain ⟨vt, h1, k1, _⟩ := h
  refine ⟨vt, rfl, h1, k1.os, k1.tape, k1.output, ?_, fun b hb => ?_⟩
  · have := k1.size; simp at this; omega
  · exact (k1.block b (by simp; omega) (by omega) (by simp [Value.ownBlock])).trans (Below.heap_alloc w o b hb)

end Go.Proofs.YtecddphahiadlaaDoor

/- The document's Run: a stream, as far as it goes. -/
namespace Go.Proofs.YtecddphahiadlaaDoor
open Go.RowKit

theorem headF_rng {s : ByteArray} {σ : St} (h : (headF s σ).st.why = 0) : (headF s σ).a ≤ 29 ∧ (headF s σ).b ≤ 29 := by
  unfold headF at h ⊢
  generalize numF s 5 σ = A at h ⊢
  have h2 := numF_alive (s := s) 5 (σ := stop29 A)
  generalize numF s 5 (stop29 A) = C at h h2 ⊢
  have h3 := numF_alive (s := s) 4 (σ := stop29 C)
  generalize numF s 4 (stop29 C) = D at h h3 ⊢
  have h4 := stop29_le (h3 h)
  have h5 := stop29_le (h2 (by rw [h4.2] at h3; exact h3 h))
  exact ⟨h5.1, h4.1⟩

theorem ownF_rng {s : ByteArray} {σ : St} (h : (ownF s σ).2.why = 0) : (∀ y ∈ (ownF s σ).1, 0 ≤ y ∧ y ≤ 15) ∧ (headF s σ).a ≤ 29 ∧ (headF s σ).b ≤ 29 := by
  have hh := headF_rng (s := s) (σ := σ)
  unfold ownF at h ⊢
  generalize headF s σ = hd at h hh ⊢
  by_cases c : hd.st.why ≠ 0
  · rw [if_pos c] at h; exact absurd h c
  · rw [if_neg c] at h ⊢
    have h1 : (lensF s (hd.a + hd.b + 258) (hd.c + 4) hd.st).2.why = 0 := by
      have h' : (ownEnd (lensF s (hd.a + hd.b + 258) (hd.c + 4) hd.st) hd.a hd.b).why = 0 := h
      unfold ownEnd at h'
      split at h'
      · exact absurd h' (stopF_why (by omega))
      · exact h'
    exact ⟨(lensF_rng h1).1, hh (by omega)⟩

set_option maxRecDepth 4000 in
set_option maxHeartbeats 1000000 in
theorem run_any (s : ByteArray) (w : World) (hs : s.size ≤ 140737488400000) :
    Calls Tryd.prog 22 #[.string s] w fun e w' => RunPost w s e w' := by
  have S0 := Str.begin w s
  have HPOST : Hid (∀ w', Runs w.heap.size (w.alloc (.cells #[.string s, .int .i64 0, .slice none 0 0, .int .i64 0, .bool false] 56)) w' w.heap.size s (.slice none 0 0) (runF s) → RunPost w s (.returned (.pointer (some ⟨w.heap.size, 0, none⟩))) w') := fun w' h => run_post h
  go_enter Tryd.func22, Tryd.ntmps22
  go_wp2_with fail
  have R0 : RG (w.alloc (.cells #[.string s, .int .i64 0, .slice none 0 0, .int .i64 0, .bool false] 56)) (w.alloc (.cells #[.string s, .int .i64 0, .slice none 0 0, .int .i64 0, .bool false] 56)) w.heap.size s (8 * s.size + 1) start :=
    ⟨⟨by show 0 ≤ _; omega, by show 0 ≤ 5000; omega⟩, Runs.refl S0, by unfold restN; split <;> omega, rfl⟩
  clear S0
  generalize w.alloc (.cells #[.string s, .int .i64 0, .slice none 0 0, .int .i64 0, .bool false] 56) = w1 at R0 HPOST ⊢
  obtain ⟨gx, hgx⟩ : ∃ gx, gx = w.heap.size := ⟨_, rfl⟩
  rw [← hgx] at R0 HPOST ⊢
  clear hgx
  go_loopg [4, 5, 6, 7, 8, 9] (8 * s.size + 1) (fun fu _ _ _ _ _ _ wr => ∃ σ1 : St, RG w1 wr gx s fu σ1)
  case atStart => exact ⟨start, R0⟩
  case round =>
    obtain ⟨σ1, hrel⟩ := hrel
    clear R0
    obtain ⟨vt, hstr, hkp, hfr⟩ := hrel.runs
    have d3 := hstr.c3
    have d4 := hstr.c4
    by_cases hy : σ1.why = 0
    · have e3 : ((σ1.why : Int) == 0) = true := by rw [beq_iff_eq]; omega
      cases hfi : σ1.fin
      · rw [hfi] at d4
        go_wp2_with fail
        refine (bit_any gx gx s σ1 vt _ hstr hs hrel.fit.pos).mono ?_
        rintro e w2 ⟨rfl, h2, k2⟩
        have hbl := bitF_lt s σ1
        have HL : Hid (_) := fun w3 h3 k3 => rg_last (w2 := w3) hrel hy hfi hkp hfr h3 k3
        have HN : Hid (_) := fun w3 k3 hd σ5 w5 vt5 b h5e h5 k5 f5 hb => rg_next (w2 := w3) (σ5 := σ5) (w5 := w5) (vt5 := vt5) (b := b) hrel hy hfi hkp hfr k3 hd h5e h5 k5 f5 hb
        have ft2 := hrel.fit.bit
        generalize bitF s σ1 = q at h2 hbl HL HN ft2 ⊢
        obtain ⟨bv, σ2⟩ := q
        simp only at h2 hbl HL HN ft2 ⊢
        clear hrel hy hfi hkp hfr d3 d4 e3
        have hnl := numF_lt s 2 σ2
        have h22 : (2 : Nat) ^ 2 = 4 := rfl
        rw [h22] at hnl
        clear h22
        go_wp2_with fail
        refine (number_any gx gx 2 s σ2 vt _ h2 hs ft2.pos (by omega)).mono ?_
        rintro e w3 ⟨rfl, h3, k3⟩
        have ft3 : Fit s (numF s 2 σ2).2 := Fit.num 2 ft2
        generalize numF s 2 σ2 = q at h3 hnl HL HN ft3 ⊢
        obtain ⟨kk, σ3⟩ := q
        simp only at h3 hnl HL HN ft3 ⊢
        have k23 := k2.trans k3
        clear h2 k2 k3 ft2
        have d3 := h3.c3
        have hgx3 : gx ≤ w3.heap.size := Nat.le_of_lt h3.row.lt
        by_cases hy3 : σ3.why = 0
        · have e3 : ((σ3.why : Int) != 0) = false := by rw [bne_eq_false_iff_eq]; omega
          have HN2 : Hid (_) := fun σ5 w5 vt5 b h5e h5 k5 f5 hb => HN.out w3 k23 hy3 σ5 w5 vt5 b h5e h5 k5 f5 hb
          clear HL HN hy3 k23
          rcases (by omega : kk = 0 ∨ kk = 1 ∨ kk = 2 ∨ kk = 3) with hk | hk | hk | hk
          · have HBK : Hid (blockF s kk σ3 = plainF s σ3) := by show _ = _; unfold blockF; rw [if_pos hk]
            have t0 : ((kk : Int) == 0) = true := by rw [beq_iff_eq]; omega
            clear hk
            go_wp2_with fail
            refine (plain_any gx gx s σ3 vt _ h3 hgx3 hs ft3).mono ?_
            rintro e w5 ⟨rfl, hr5⟩
            rw [← HBK.out] at hr5
            obtain ⟨vt5, h5, k5, f5⟩ := hr5
            have HE5 : Hid (_) := fun (b : Bool) => HN2.out _ w5 vt5 b rfl h5 k5 f5
            clear HN2 k5 f5 h3 HBK
            generalize blockF s kk σ3 = σ5 at h5 HE5
            clear d3
            have d3 := h5.c3
            have d4 := h5.c4
            have f4 := h5.fz 4
            by_cases hy5 : σ5.why = 0
            · have e3 : ((σ5.why : Int) == 0) = true := by rw [beq_iff_eq]; omega
              by_cases hb1 : bv = 1
              · have e4 : ((bv : Int) == 1) = true := by rw [beq_iff_eq]; omega
                obtain ⟨hf1, R⟩ := HE5.out true (by rw [decide_eq_true ⟨hy5, hb1⟩])
                clear HE5 h5 hy5
                go_wp2
                go_roundg (gk - 1)
                case measure => omega
                case rel => exact ⟨_, R⟩
              · have e4 : ((bv : Int) == 1) = false := by rw [beq_eq_false_iff_ne]; omega
                obtain ⟨hf1, R⟩ := HE5.out false (by rw [decide_eq_false (fun h => hb1 h.2)])
                clear HE5 h5 hy5
                go_wp2
                go_roundg (gk - 1)
                case measure => omega
                case rel => exact ⟨_, R⟩
            · have e3 : ((σ5.why : Int) == 0) = false := by rw [beq_eq_false_iff_ne]; omega
              obtain ⟨hf1, R⟩ := HE5.out false (by rw [decide_eq_false (fun h => hy5 h.1)])
              clear HE5 h5 hy5
              go_wp2
              go_roundg (gk - 1)
              case measure => omega
              case rel => exact ⟨_, R⟩
          · have HBK : Hid (blockF s kk σ3 = codedF s (codeT fixZ 288) 288 (codeT fivZ 32) 32 σ3) := by show _ = _; unfold blockF; rw [if_neg (by omega), if_pos hk]
            have t0 : ((kk : Int) == 0) = false := by rw [beq_eq_false_iff_ne]; omega
            have t1 : ((kk : Int) == 1) = true := by rw [beq_iff_eq]; omega
            clear hk
            go_wp2_with fail
            refine (fixed_any w3).mono ?_
            rintro e w4 ⟨gl, gd, rfl, hgl, hgd, rl, rd, hb4⟩
            have o1 : Off w3 gx vt gl := h3.off hgl
            have o2 : Off w3 gx vt gd := h3.off hgd
            have h4 := h3.later hb4
            have hgx4 : gx ≤ w4.heap.size := Nat.le_trans hgx3 hb4.size
            go_wp2_with fail
            refine (coded_any gx gx gl 288 288 gd 32 32 s (codeT fixZ 288) (codeT fivZ 32) σ3 vt _ h4 hgx4 hs ft3 rl o1.nx o1.nv (by omega) (fun i _ => codeT_most _ _ _ (fixZ_rng i)) rd o2.nx o2.nv (by omega) (fun i _ => codeT_most _ _ _ (by unfold fivZ; omega))).mono ?_
            rintro e w5 ⟨rfl, hr4⟩
            have hr5 := Runs.trans ((Kp.refl w3 gx vt).later hb4) (fun _ hg => Or.inl hg) hr4
            clear hr4 h4 rl rd o1 o2 hb4
            rw [← HBK.out] at hr5
            obtain ⟨vt5, h5, k5, f5⟩ := hr5
            have HE5 : Hid (_) := fun (b : Bool) => HN2.out _ w5 vt5 b rfl h5 k5 f5
            clear HN2 k5 f5 h3 HBK
            generalize blockF s kk σ3 = σ5 at h5 HE5
            clear d3
            have d3 := h5.c3
            have d4 := h5.c4
            have f4 := h5.fz 4
            by_cases hy5 : σ5.why = 0
            · have e3 : ((σ5.why : Int) == 0) = true := by rw [beq_iff_eq]; omega
              by_cases hb1 : bv = 1
              · have e4 : ((bv : Int) == 1) = true := by rw [beq_iff_eq]; omega
                obtain ⟨hf1, R⟩ := HE5.out true (by rw [decide_eq_true ⟨hy5, hb1⟩])
                clear HE5 h5 hy5
                go_wp2
                go_roundg (gk - 1)
                case measure => omega
                case rel => exact ⟨_, R⟩
              · have e4 : ((bv : Int) == 1) = false := by rw [beq_eq_false_iff_ne]; omega
                obtain ⟨hf1, R⟩ := HE5.out false (by rw [decide_eq_false (fun h => hb1 h.2)])
                clear HE5 h5 hy5
                go_wp2
                go_roundg (gk - 1)
                case measure => omega
                case rel => exact ⟨_, R⟩
            · have e3 : ((σ5.why : Int) == 0) = false := by rw [beq_eq_false_iff_ne]; omega
              obtain ⟨hf1, R⟩ := HE5.out false (by rw [decide_eq_false (fun h => hy5 h.1)])
              clear HE5 h5 hy5
              go_wp2
              go_roundg (gk - 1)
              case measure => omega
              case rel => exact ⟨_, R⟩
          · have HBK : Hid (blockF s kk σ3 = ownBlk s σ3) := by show _ = _; unfold blockF; rw [if_neg (by omega), if_neg (by omega), if_pos hk]
            have t0 : ((kk : Int) == 0) = false := by rw [beq_eq_false_iff_ne]; omega
            have t1 : ((kk : Int) == 1) = false := by rw [beq_eq_false_iff_ne]; omega
            have t2 : ((kk : Int) == 2) = true := by rw [beq_iff_eq]; omega
            clear hk
            go_wp2_with fail
            refine (own_any gx gx s σ3 vt _ h3 hgx3 hs ft3).mono ?_
            rintro e w4 ⟨v1, v2, rfl, h4, k4, hdead, hgood⟩
            have HOB : Hid (ownBlk s σ3 = codedF s (codeT (lenZ (ownF s σ3).1 0) ((headF s σ3).a + 257)) ((headF s σ3).a + 257) (codeT (lenZ (ownF s σ3).1 ((headF s σ3).a + 257)) ((headF s σ3).b + 1)) ((headF s σ3).b + 1) (ownF s σ3).2) := rfl
            have ft4 := ownF_fit (s := s) ft3
            have hrg := ownF_rng (s := s) (σ := σ3)
            have hgx4 : gx ≤ w4.heap.size := Nat.le_trans hgx3 k4.size
            generalize ownF s σ3 = p at h4 hdead hgood HOB ft4 hrg
            generalize headF s σ3 = hd at hgood HOB hrg
            obtain ⟨L, σ4⟩ := p
            simp only at h4 hdead hgood HOB ft4 hrg
            by_cases hy4 : σ4.why = 0
            · obtain ⟨gl, gd, rfl, rfl, hgl, hgd, rl, rd⟩ := hgood hy4
              obtain ⟨hrn, ha29, hb29⟩ := hrg hy4
              have hz1 : ∀ i, i < hd.a + 257 → (codeT (lenZ L 0) (hd.a + 257) i).size ≤ 15 := fun i _ => codeT_most _ _ _ (lenZ_rng hrn 0 i)
              have hz2 : ∀ i, i < hd.b + 1 → (codeT (lenZ L (hd.a + 257)) (hd.b + 1) i).size ≤ 15 := fun i _ => codeT_most _ _ _ (lenZ_rng hrn _ i)
              generalize codeT (lenZ L 0) (hd.a + 257) = c1 at rl HOB hz1
              generalize codeT (lenZ L (hd.a + 257)) (hd.b + 1) = c2 at rd HOB hz2
              have hna : hd.a + 257 ≤ 1000 := by omega
              have hnb : hd.b + 1 ≤ 1000 := by omega
              generalize hd.a + 257 = na at rl HOB hz1 hna ⊢
              generalize hd.b + 1 = nb at rd HOB hz2 hnb ⊢
              have o1 : Off w3 gx vt gl := h3.off hgl
              have o2 : Off w3 gx vt gd := h3.off hgd
              clear hrn hrg hdead hgood hy4
              go_wp2_with fail
              refine (coded_any gx gx gl na na gd nb nb s c1 c2 σ4 vt _ h4 hgx4 hs ft4 rl o1.nx o1.nv hna hz1 rd o2.nx o2.nv hnb hz2).mono ?_
              rintro e w5 ⟨rfl, hr4⟩
              have hr5 := Runs.trans k4 (fun _ hg => Or.inl hg) hr4
              rw [← HOB.out] at hr5
              clear hr4 h4 rl rd o1 o2 k4 HOB hz1 hz2
              rw [← HBK.out] at hr5
              obtain ⟨vt5, h5, k5, f5⟩ := hr5
              have HE5 : Hid (_) := fun (b : Bool) => HN2.out _ w5 vt5 b rfl h5 k5 f5
              clear HN2 k5 f5 h3 HBK
              generalize blockF s kk σ3 = σ5 at h5 HE5
              clear d3
              have d3 := h5.c3
              have d4 := h5.c4
              have f4 := h5.fz 4
              by_cases hy5 : σ5.why = 0
              · have e3 : ((σ5.why : Int) == 0) = true := by rw [beq_iff_eq]; omega
                by_cases hb1 : bv = 1
                · have e4 : ((bv : Int) == 1) = true := by rw [beq_iff_eq]; omega
                  obtain ⟨hf1, R⟩ := HE5.out true (by rw [decide_eq_true ⟨hy5, hb1⟩])
                  clear HE5 h5 hy5
                  go_wp2
                  go_roundg (gk - 1)
                  case measure => omega
                  case rel => exact ⟨_, R⟩
                · have e4 : ((bv : Int) == 1) = false := by rw [beq_eq_false_iff_ne]; omega
                  obtain ⟨hf1, R⟩ := HE5.out false (by rw [decide_eq_false (fun h => hb1 h.2)])
                  clear HE5 h5 hy5
                  go_wp2
                  go_roundg (gk - 1)
                  case measure => omega
                  case rel => exact ⟨_, R⟩
              · have e3 : ((σ5.why : Int) == 0) = false := by rw [beq_eq_false_iff_ne]; omega
                obtain ⟨hf1, R⟩ := HE5.out false (by rw [decide_eq_false (fun h => hy5 h.1)])
                clear HE5 h5 hy5
                go_wp2
                go_roundg (gk - 1)
                case measure => omega
                case rel => exact ⟨_, R⟩
            · obtain ⟨rfl, rfl⟩ := hdead hy4
              have HOB2 : Hid (ownBlk s σ3 = σ4) := by show _ = _; rw [HOB.out, codedF_dead hy4]
              clear hgood hrg hdead HOB
              go_wp2_with fail
              refine (coded_dead gx gx s σ4 vt _ h4 hy4).mono ?_
              rintro e w5 ⟨rfl, rfl⟩
              have hr5 : Runs gx w3 w5 gx s vt σ4 := ⟨vt, h4, k4, fun _ hg => Or.inl hg⟩
              rw [← HOB2.out] at hr5
              clear h4 k4 HOB2 hy4
              rw [← HBK.out] at hr5
              obtain ⟨vt5, h5, k5, f5⟩ := hr5
              have HE5 : Hid (_) := fun (b : Bool) => HN2.out _ w5 vt5 b rfl h5 k5 f5
              clear HN2 k5 f5 h3 HBK
              generalize blockF s kk σ3 = σ5 at h5 HE5
              clear d3
              have d3 := h5.c3
              have d4 := h5.c4
              have f4 := h5.fz 4
              by_cases hy5 : σ5.why = 0
              · have e3 : ((σ5.why : Int) == 0) = true := by rw [beq_iff_eq]; omega
                by_cases hb1 : bv = 1
                · have e4 : ((bv : Int) == 1) = true := by rw [beq_iff_eq]; omega
                  obtain ⟨hf1, R⟩ := HE5.out true (by rw [decide_eq_true ⟨hy5, hb1⟩])
                  clear HE5 h5 hy5
                  go_wp2
                  go_roundg (gk - 1)
                  case measure => omega
                  case rel => exact ⟨_, R⟩
                · have e4 : ((bv : Int) == 1) = false := by rw [beq_eq_false_iff_ne]; omega
                  obtain ⟨hf1, R⟩ := HE5.out false (by rw [decide_eq_false (fun h => hb1 h.2)])
                  clear HE5 h5 hy5
                  go_wp2
                  go_roundg (gk - 1)
                  case measure => omega
                  case rel => exact ⟨_, R⟩
              · have e3 : ((σ5.why : Int) == 0) = false := by rw [beq_eq_false_iff_ne]; omega
                obtain ⟨hf1, R⟩ := HE5.out false (by rw [decide_eq_false (fun h => hy5 h.1)])
                clear HE5 h5 hy5
                go_wp2
                go_roundg (gk - 1)
                case measure => omega
                case rel => exact ⟨_, R⟩
          · have HBK : Hid (blockF s kk σ3 = stopF σ3 1) := by show _ = _; unfold blockF; rw [if_neg (by omega), if_neg (by omega), if_neg (by omega)]
            have t0 : ((kk : Int) == 0) = false := by rw [beq_eq_false_iff_ne]; omega
            have t1 : ((kk : Int) == 1) = false := by rw [beq_eq_false_iff_ne]; omega
            have t2 : ((kk : Int) == 2) = false := by rw [beq_eq_false_iff_ne]; omega
            clear hk
            go_wp2_with fail
            refine (stops_any gx gx 1 s σ3 vt _ h3).mono ?_
            rintro e w5 ⟨rfl, h4, k4⟩
            have hr5 : Runs gx w3 w5 gx s vt (stopF σ3 1) := ⟨vt, h4, k4, fun _ hg => Or.inl hg⟩
            clear h4 k4
            rw [← HBK.out] at hr5
            obtain ⟨vt5, h5, k5, f5⟩ := hr5
            have HE5 : Hid (_) := fun (b : Bool) => HN2.out _ w5 vt5 b rfl h5 k5 f5
            clear HN2 k5 f5 h3 HBK
            generalize blockF s kk σ3 = σ5 at h5 HE5
            clear d3
            have d3 := h5.c3
            have d4 := h5.c4
            have f4 := h5.fz 4
            by_cases hy5 : σ5.why = 0
            · have e3 : ((σ5.why : Int) == 0) = true := by rw [beq_iff_eq]; omega
              by_cases hb1 : bv = 1
              · have e4 : ((bv : Int) == 1) = true := by rw [beq_iff_eq]; omega
                obtain ⟨hf1, R⟩ := HE5.out true (by rw [decide_eq_true ⟨hy5, hb1⟩])
                clear HE5 h5 hy5
                go_wp2
                go_roundg (gk - 1)
                case measure => omega
                case rel => exact ⟨_, R⟩
              · have e4 : ((bv : Int) == 1) = false := by rw [beq_eq_false_iff_ne]; omega
                obtain ⟨hf1, R⟩ := HE5.out false (by rw [decide_eq_false (fun h => hb1 h.2)])
                clear HE5 h5 hy5
                go_wp2
                go_roundg (gk - 1)
                case measure => omega
                case rel => exact ⟨_, R⟩
            · have e3 : ((σ5.why : Int) == 0) = false := by rw [beq_eq_false_iff_ne]; omega
              obtain ⟨hf1, R⟩ := HE5.out false (by rw [decide_eq_false (fun h => hy5 h.1)])
              clear HE5 h5 hy5
              go_wp2
              go_roundg (gk - 1)
              case measure => omega
              case rel => exact ⟨_, R⟩
        · have e3 : ((σ3.why : Int) != 0) = true := by rw [bne_iff_ne]; omega
          have P := HPOST.out w3 (HL.out w3 h3 k23 hy3)
          clear HL HN h3 k23 hy3
          go_wp2
          go_ret
          exact P
      · rw [hfi] at d4
        have P := HPOST.out wr (hrel.fin (by rw [hfi]; simp))
        clear hrel hstr hkp hfr hy
        go_wp2
        go_ret
        exact P
    · have e3 : ((σ1.why : Int) == 0) = false := by rw [beq_eq_false_iff_ne]; omega
      have P := HPOST.out wr (hrel.fin (fun h => hy h.1))
      clear hrel hstr hkp hfr hy
      go_wp2
      go_ret
      exact P

end Go.Proofs.YtecddphahiadlaaDoor

/- The document's Inflate. -/
namespace Go.Proofs.YtecddphahiadlaaDoor
open Go.RowKit

theorem conv_text {B : Nat} {w : World} {gx : Nat} {s : ByteArray} {σ : St} {vt : Value} (h : Str B w gx s σ vt) (q : Nat) : (convert 32 9 vt).run Tryd.prog (w.drewN q) = .ok (.string ⟨σ.text.toArray⟩) (w.drewN q) := by
  have ho := h.own
  obtain ⟨h1, h2⟩ := h.own
  rcases h2 with ⟨h2, h3⟩ | ⟨g, cap, cur, hv, _⟩
  · have e : σ.text = [] := List.eq_nil_of_length_eq_zero h3
    rw [h2, e]
    exact Go.Lib.run_convert_nil_bytes (P := Tryd.prog) _ 32 9 5 0 Tryd.underlying32 Tryd.underlying5 Tryd.underlying9
  · rw [hv]
    refine run_convert_bytes_back (P := Tryd.prog) (w.drewN q) 32 9 5 ⟨g, 0, none⟩ cap σ.text Tryd.underlying32 Tryd.underlying5 Tryd.underlying9 (fun j hj => ?_)
    have e := ho.cells (g := g) (by rw [hv]; rfl) j _ (byteVals_get σ.text j hj)
    have e2 : σ.text.getD j 0 = σ.text[j] := by rw [List.getD_eq_getElem?_getD, List.getElem?_eq_getElem hj]; rfl
    rw [e2] at e
    exact e

/-- What the document answers. -/
def infAns (s : ByteArray) : Value :=
  if (runF s).why = 0 then .tuple #[.string ⟨(runF s).text.toArray⟩, .int .i64 (((runF s).pos + 7) / 8 : Nat), .int .i64 0]
  else if (runF s).why = 2 then .tuple #[.string ⟨(runF s).text.toArray⟩, .int .i64 0, .int .i64 2]
  else .tuple #[.string .empty, .int .i64 0, .int .i64 ((runF s).why : Nat)]

def InfPost (w : World) (s : ByteArray) (e : Ending) (w' : World) : Prop := e = .returned (infAns s) ∧ Below w.heap.size w w'

set_option maxHeartbeats 1000000 in
theorem inflate_any (s : ByteArray) (w : World) (hs : s.size ≤ 140737488400000) :
    Calls Tryd.prog 8 #[.string s] w fun e w' => InfPost w s e w' := by
  go_enter Tryd.func8, Tryd.ntmps8
  go_wp2_with fail
  refine (run_any s _ hs).mono ?_
  rintro e w1 ⟨vt, rfl, h1, hb1⟩
  have d1 := h1.c1
  have d2 := h1.c2
  have d3 := h1.c3
  have cv0 : (convert 32 9 vt).run Tryd.prog w1 = .ok (.string ⟨(runF s).text.toArray⟩) w1 := conv_text h1 0
  have cv1 : (convert 32 9 vt).run Tryd.prog w1.drew = .ok (.string ⟨(runF s).text.toArray⟩) w1.drew := conv_text h1 1
  have HANS : Hid (infAns s = if (runF s).why = 0 then .tuple #[.string ⟨(runF s).text.toArray⟩, .int .i64 (((runF s).pos + 7) / 8 : Nat), .int .i64 0] else if (runF s).why = 2 then .tuple #[.string ⟨(runF s).text.toArray⟩, .int .i64 0, .int .i64 2] else .tuple #[.string .empty, .int .i64 0, .int .i64 ((runF s).why : Nat)]) := rfl
  have hp := (runF_fit s).pos
  have hb1d : Below w.heap.size w w1.drew := hb1.drew
  clear h1
  generalize runF s = σ at d1 d2 d3 cv0 cv1 HANS hp
  obtain ⟨gx, hgx⟩ : ∃ gx, gx = w.heap.size := ⟨_, rfl⟩
  rw [← hgx] at d1 d2 d3 ⊢
  clear hgx
  by_cases hy : σ.why = 0
  · have e3 : ((σ.why : Int) == 0) = true := by rw [beq_iff_eq]; omega
    have HE : Hid (infAns s = .tuple #[.string ⟨σ.text.toArray⟩, .int .i64 ((σ.pos + 7) / 8 : Nat), .int .i64 0]) := by show _ = _; rw [HANS.out, if_pos hy]
    have hdv : ((σ.pos : Int) + 7) / 8 = (((σ.pos + 7) / 8 : Nat) : Int) := by omega
    clear HANS hy
    go_wp2_with fail
    go_region
    all_goals
      go_wp2
      go_ret3
      exact ⟨by rw [HE.out]; first | rfl | (simp; done) | (simp [hdv]; done) | (simp; omega), hb1d⟩
  · have e3 : ((σ.why : Int) == 0) = false := by rw [beq_eq_false_iff_ne]; omega
    by_cases hy2 : σ.why = 2
    · have e4 : ((σ.why : Int) == 2) = true := by rw [beq_iff_eq]; omega
      have HE : Hid (infAns s = .tuple #[.string ⟨σ.text.toArray⟩, .int .i64 0, .int .i64 2]) := by show _ = _; rw [HANS.out, if_neg hy, if_pos hy2]
      clear HANS hy hy2
      go_wp2
      go_ret3
      exact ⟨by rw [HE.out]; rfl, hb1⟩
    · have e4 : ((σ.why : Int) == 2) = false := by rw [beq_eq_false_iff_ne]; omega
      have HE : Hid (infAns s = .tuple #[.string .empty, .int .i64 0, .int .i64 (σ.why : Nat)]) := by show _ = _; rw [HANS.out, if_neg hy, if_neg hy2]
      clear HANS hy hy2
      go_wp2_with fail
      go_region
      all_goals
        go_wp2
        go_ret3
        exact ⟨by rw [HE.out]; rfl, hb1d⟩

end Go.Proofs.YtecddphahiadlaaDoor
