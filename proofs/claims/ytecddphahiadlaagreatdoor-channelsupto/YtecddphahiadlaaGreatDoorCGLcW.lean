import Derived.Test.YtecddphahiadlaaGreatDoorCGPlanF
import Derived.Deep.RegionWith
/- The program's told and lengthCodes. -/
namespace Go.Proofs.YtecddphahiadlaaGreatDoor
open Go.RowKit
theorem stop29_dead {p : Nat × St} (h : p.2.why ≠ 0) : stop29 p = p.2 := by unfold stop29; rw [if_neg (fun c => h c.1)]
theorem stop29_bad {p : Nat × St} (h : p.2.why = 0) (h2 : 29 < p.1) : stop29 p = { p.2 with why := 1 } := by unfold stop29; rw [if_pos ⟨h, h2⟩]; unfold stopF; rw [if_pos h]
theorem stop29_ok {p : Nat × St} (h2 : ¬ 29 < p.1) : stop29 p = p.2 := by unfold stop29; rw [if_neg (fun c => h2 c.2)]
set_option maxHeartbeats 400000 in
theorem told_any (B gx : Nat) (s : ByteArray) (σ : St) (vt : Value) (fx : Ex) (w : World) (h : Rd B w gx s σ vt fx) (hs : s.size ≤ 140737488400000) (hp : σ.pos ≤ 8 * s.size) (hy : σ.why = 0) :
 Calls Tryz.prog 148 #[.pointer (some ⟨gx, 0, none⟩)] w fun e w' => e = endOf (stop29 (numF s 5 σ)).why (.int .i64 ((numF s 5 σ).1 : Int)) ∧ Rd B w' gx s (stop29 (numF s 5 σ)) vt fx ∧ Kp w w' gx vt := by
 obtain ⟨goal, hgoal⟩ : ∃ goal, goal = numF s 5 σ := ⟨_, rfl⟩
 have HN : Hid (_) := gnumber_any B gx 5 s σ vt fx w h hs hp hy (by omega)
 have nb := numF_ltK s 5 32 σ rfl
 rw [← hgoal] at HN nb ⊢
 clear hgoal h
 obtain ⟨n, σ2⟩ := goal
 simp only at HN nb
 go_enter Tryz.func148, Tryz.ntmps148
 go_wp2_with fail
 refine Calls.mono HN.out ?_
 rintro e w2 ⟨he, h2, k2⟩
 clear HN
 by_cases hy2 : σ2.why = 0
 ·
  rw [endOf_ok hy2] at he; subst he
  by_cases h29 : 29 < n
  ·
   have HS : Hid (_) := stop29_bad (p := (n, σ2)) hy2 h29
   go_wp2_with fail
   refine (wrong_any _).mono ?_
   rintro e w4 ⟨rfl, rfl⟩
   rw [endOf_bad (by omega)]
   go_wp2
   rw [HS.out]
   exact ⟨rfl, rfl, h2.congr rfl rfl, k2⟩
  ·
   have HS : Hid (_) := stop29_ok (p := (n, σ2)) h29
   go_wp2
   go_ret
   rw [HS.out, endOf_ok hy2]
   exact ⟨rfl, h2, k2⟩
 ·
  rw [endOf_bad hy2] at he; subst he
  have HS : Hid (_) := stop29_dead (p := (n, σ2)) hy2
  go_wp2
  rw [HS.out, endOf_bad hy2]
  exact ⟨rfl, rfl, h2, k2⟩
theorem headGo_dead {s : ByteArray} : ∀ (r i : Nat) (f : Nat → Nat) {σ : St}, σ.why ≠ 0 → (headGo s r i f σ).2 = σ
 | 0, _, _, _, _ => rfl
 |
  r + 1, i, f, σ, h => by
  simp only [headGo]
  rw [numF_dead 3 h]
  exact headGo_dead r (i + 1) _ h
/-- The lengths of the lengths' codes, behind their number. -/
def lcEnd (a : (Nat → Nat) × St) : St := if a.2.why = 0 ∧ ks0 (headZ a.1) 19 ≠ 32768 then { a.2 with why := 1 } else a.2
theorem Kp.setNew {w w' : World} {gx : Nat} {vt : Value} (h : Kp w w' gx vt) {g : Nat} (hg : w.heap.size ≤ g) (i : Nat) (v : Value) : Kp w (w'.setCell ⟨g, i, none⟩ v) gx vt :=
 ⟨h.os, h.tape, h.output, by simp [World.setCell]; exact h.size, fun b hb hx hv => (Below.heap_setCell _ _ _ _ (by show b ≠ g; omega)).trans (h.block b hb hx hv)⟩
theorem Rd.setOther {B : Nat} {w : World} {gx : Nat} {s : ByteArray} {σ : St} {vt : Value} {fx : Ex} (h : Rd B w gx s σ vt fx) {g : Nat} (hg : gx ≠ g) (hv : vt.ownBlock ≠ some g) (i : Nat) (v : Value) : Rd B (w.setCell ⟨g, i, none⟩ v) gx s σ vt fx :=
 ⟨h.le, h.big, h.row.setOther hg v, own_setCell h.own hv i v, h.ne⟩
/-- The state of the loop over the head: r more, from number i on. -/
structure LcR (B : Nat) (w wr : World) (gx : Nat) (s : ByteArray) (vt : Value) (fx : Ex) (g2 g3 go r i : Nat) (f : Nat → Nat) (σ : St) (goal : (Nat → Nat) × St) : Prop where
 rd : Rd B wr gx s σ vt fx
 kp : Kp w wr gx vt
 fit : Fit s σ
 why : σ.why = 0
 row : wr.rowIs g3 208 19 (fun j => .int .i64 (f j : Nat))
 res : wr.heap[g2]? = some (.cells zeros17 185 (0, 0))
 ord : OrdIn wr go
 low : ∀ j, f j < 8
 eq : headGo s r i f σ = goal
/- The program's lengthCodes, walked. -/
def zeros19 : Array Value := #[.int .i64 0, .int .i64 0, .int .i64 0, .int .i64 0, .int .i64 0, .int .i64 0, .int .i64 0, .int .i64 0, .int .i64 0, .int .i64 0, .int .i64 0, .int .i64 0, .int .i64 0, .int .i64 0, .int .i64 0, .int .i64 0, .int .i64 0, .int .i64 0, .int .i64 0]
theorem zeros19_at : ∀ i, i < 19 → zeros19[i]? = some (.int .i64 0)
 | 0, _ => rfl
 | 1, _ => rfl
 | 2, _ => rfl
 | 3, _ => rfl
 | 4, _ => rfl
 | 5, _ => rfl
 | 6, _ => rfl
 | 7, _ => rfl
 | 8, _ => rfl
 | 9, _ => rfl
 | 10, _ => rfl
 | 11, _ => rfl
 | 12, _ => rfl
 | 13, _ => rfl
 | 14, _ => rfl
 | 15, _ => rfl
 | 16, _ => rfl
 | 17, _ => rfl
 | 18, _ => rfl
 | n + 19, h => absurd h (by omega)
/-- What lengthCodes answers. -/
def LcPost (B : Nat) (w : World) (gx : Nat) (s : ByteArray) (vt : Value) (fx : Ex) (goal : (Nat → Nat) × St) (e : Ending) (w' : World) : Prop :=
 Rd B w' gx s (lcEnd goal) vt fx ∧ Kp w w' gx vt ∧ (((lcEnd goal).why = 0 ∧ ∃ g sy, e = .returned (setV (headZ goal.1) 19 g) ∧ SetIn w' (headZ goal.1) 19 g sy ∧ w.heap.size ≤ g) ∨ ((lcEnd goal).why ≠ 0 ∧ e = endOf (lcEnd goal).why .nilFunc))
theorem lcEnd_bad {a : (Nat → Nat) × St} (h : a.2.why = 0) (h2 : ks0 (headZ a.1) 19 ≠ 32768) : lcEnd a = { a.2 with why := 1 } := by unfold lcEnd; rw [if_pos ⟨h, h2⟩]
theorem lcEnd_ok {a : (Nat → Nat) × St} (h2 : ks0 (headZ a.1) 19 = 32768) : lcEnd a = a.2 := by unfold lcEnd; rw [if_neg (fun c => c.2 h2)]
theorem lcEnd_dead {a : (Nat → Nat) × St} (h : a.2.why ≠ 0) : lcEnd a = a.2 := by unfold lcEnd; rw [if_neg (fun c => h c.1)]
theorem headZ_rng {f : Nat → Nat} (h : ∀ j, f j < 8) (i : Nat) : 0 ≤ headZ f i ∧ headZ f i ≤ 15 := by have := h i; unfold headZ; omega
theorem Kp.below {w w' : World} (h : Below w.heap.size w w') (gx : Nat) (vt : Value) : Kp w w' gx vt := ⟨h.os, h.tape, h.output, h.size, fun b hb _ _ => h.block b hb⟩
theorem ownsRow_below {w w' : World} {B n : Nat} {vt : Value} {xs : List Value} {e : TypeId} (h : w.ownsRow B e 1 vt n xs) (hb : Below w.heap.size w w') : w'.ownsRow B e 1 vt n xs := by
 have hl := h.lt
 obtain ⟨q1, q2⟩ := h
 refine ⟨q1, ?_⟩
 rcases q2 with q2 | ⟨g, cap, cur, hv, hbb, hh, r⟩
 · exact Or.inl q2
 · exact Or.inr ⟨g, cap, cur, hv, hbb, (hb.block g (hl g (by rw [hv]; rfl)).2).trans hh, r⟩
theorem Rd.kp' {B : Nat} {w w' : World} {gx : Nat} {s : ByteArray} {σ : St} {vt : Value} {fx : Ex} (h : Rd B w gx s σ vt fx) (_ : Kp w w' gx vt) (hb : Below w.heap.size w w') : Rd B w' gx s σ vt fx :=
 ⟨h.le, h.big, h.row.of_block (hb.block gx h.row.lt), ownsRow_below h.own hb, h.ne⟩
theorem Rd.setRow {B : Nat} {w : World} {gx : Nat} {s : ByteArray} {σ : St} {vt : Value} {fx : Ex} (h : Rd B w gx s σ vt fx) {g : Nat} (hg : gx ≠ g) (hv : vt.ownBlock ≠ some g) (A : Array Value) : Rd B (w.setRow g A) gx s σ vt fx := by
 refine ⟨h.le, h.big, h.row.of_block (setRow_other w g gx A hg), ?_, h.ne⟩
 obtain ⟨q1, q2⟩ := h.own
 refine ⟨q1, ?_⟩
 rcases q2 with q2 | ⟨g', cap, cur, hv', hbb, hh, r⟩
 · exact Or.inl q2
 · exact Or.inr ⟨g', cap, cur, hv', hbb, (setRow_other w g g' A (fun e => hv (by rw [hv', ← e]; rfl))).trans hh, r⟩
theorem Kp.setRow {w w' : World} {gx : Nat} {vt : Value} (h : Kp w w' gx vt) {g : Nat} (hg : w.heap.size ≤ g) (A : Array Value) : Kp w (w'.setRow g A) gx vt :=
 ⟨h.os, h.tape, h.output, by simp; exact h.size, fun b hb hx hv => (setRow_other w' g b A (by omega)).trans (h.block b hb hx hv)⟩
theorem LcR.fail {B : Nat} {w wr w2 : World} {gx : Nat} {s : ByteArray} {vt : Value} {fx : Ex} {g2 g3 go r i : Nat} {f : Nat → Nat} {σ : St} {goal : (Nat → Nat) × St} (h : LcR B w wr gx s vt fx g2 g3 go (r + 1) i f σ goal)
 (h2 : Rd B w2 gx s (numF s 3 σ).2 vt fx) (k2 : Kp wr w2 gx vt) (hy : (numF s 3 σ).2.why ≠ 0) : LcPost B w gx s vt fx goal (endOf (numF s 3 σ).2.why .nilFunc) w2 := by
 have e : goal.2 = (numF s 3 σ).2 := by
  rw [← h.eq]
  simp only [headGo]
  exact headGo_dead r (i + 1) _ hy
 have e2 : lcEnd goal = (numF s 3 σ).2 := by rw [lcEnd_dead (by rw [e]; exact hy), e]
 refine ⟨by rw [e2]; exact h2, h.kp.trans k2, Or.inr ⟨by rw [e2]; exact hy, by rw [e2]⟩⟩
theorem LcR.step {B : Nat} {w wr w2 : World} {gx : Nat} {s : ByteArray} {vt : Value} {fx : Ex} {g2 g3 go r i : Nat} {f : Nat → Nat} {σ : St} {goal : (Nat → Nat) × St} (h : LcR B w wr gx s vt fx g2 g3 go (r + 1) i f σ goal)
 (h2 : Rd B w2 gx s (numF s 3 σ).2 vt fx) (k2 : Kp wr w2 gx vt) (hy : (numF s 3 σ).2.why = 0) (hg2 : g2 ≠ gx) (hg3 : g3 ≠ gx) (hgo : go ≠ gx) (hv2 : vt.ownBlock ≠ some g2) (hv3 : vt.ownBlock ≠ some g3) (hvo : vt.ownBlock ≠ some go)
 (h23 : g2 ≠ g3) (h3o : go ≠ g3) (hw3 : w.heap.size ≤ g3) (hl2 : g2 < wr.heap.size) :
 w2.rowIs g3 208 19 (fun j => .int .i64 (f j : Nat)) ∧ OrdIn w2 go ∧ LcR B w (w2.setCell ⟨g3, ordN i, none⟩ (.int .i64 ((numF s 3 σ).1 : Nat))) gx s vt fx g2 g3 go r (i + 1) (fun j => if j = ordN i then (numF s 3 σ).1 else f j) (numF s 3 σ).2 goal := by
 have r2 := h.row.of_block (k2.block g3 h.row.lt hg3 hv3)
 have o2 := h.ord.kp k2 hgo hvo
 refine ⟨r2, o2, h2.setOther (fun e => hg3 e.symm) hv3 _ _, (h.kp.trans k2).setNew hw3 _ _, h.fit.num 3, hy, ?_, ?_, ?_, ?_, ?_⟩
 ·
  refine (r2.set (ordN i) _).congr (fun j _ => ?_)
  by_cases e : j = ordN i
  · rw [if_pos e, if_pos e]
  · rw [if_neg e, if_neg e]
 ·
  rw [Below.heap_setCell _ _ _ _ (by show g2 ≠ g3; exact h23)]
  exact (k2.block g2 hl2 hg2 hv2).trans h.res
 ·
  refine ⟨fun j hj => ?_, by simp [World.setCell]; exact o2.lt⟩
  rw [World.cell?_setCell_other _ _ _ _ (by intro e; exact h3o (congrArg Addr.block e).symm)]
  exact o2.cell j hj
 ·
  intro j
  show (if j = ordN i then (numF s 3 σ).1 else f j) < 8
  split
  · exact numF_lt s 3 σ
  · exact h.low j
 · rw [← h.eq]; rfl
set_option maxRecDepth 4000 in
set_option maxHeartbeats 1000000 in
theorem lengthCodes_any (B gx : Nat) (s : ByteArray) (σ : St) (vt : Value) (fx : Ex) (w : World) (h : Rd B w gx s σ vt fx) (hs : s.size ≤ 140737488400000) (hf : Fit s σ) (hy : σ.why = 0) (hgo : 1 < B) (hord : OrdIn w 1) :
 Calls Tryz.prog 150 #[.pointer (some ⟨gx, 0, none⟩)] w (LcPost B w gx s vt fx (headGo s ((numF s 4 σ).1 + 4) 0 (fun _ => 0) (numF s 4 σ).2)) := by
 have hgl := h.row.lt
 have hgB := h.le
 have hvn : ∀ g, vt.ownBlock = some g → B ≤ g ∧ g < w.heap.size := fun g e => h.own.lt g e
 have hd := (h.alloc (.cells zeros17 185)).alloc (.cells zeros19 208)
 have hK1 : Kp w ((w.alloc (.cells zeros17 185)).alloc (.cells zeros19 208)) gx vt := (Kp.alloc w _ gx vt).trans (Kp.alloc _ _ gx vt)
 have e1 : (w.alloc (.cells zeros17 185)).heap.size = w.heap.size + 1 := by simp
 have hres : ((w.alloc (.cells zeros17 185)).alloc (.cells zeros19 208)).heap[w.heap.size]? = some (.cells zeros17 185 (0, 0)) := (Below.heap_alloc _ _ _ (by simp)).trans (heap_alloc_last w _)
 have hrow : ((w.alloc (.cells zeros17 185)).alloc (.cells zeros19 208)).rowIs (w.heap.size + 1) 208 19 (fun _ => .int .i64 0) := by
  have := World.rowIs_alloc (w.alloc (.cells zeros17 185)) zeros19 208 (fun _ => .int .i64 0) (fun i hi => zeros19_at i hi)
  rw [e1] at this
  exact this
 have hsz1 : ((w.alloc (.cells zeros17 185)).alloc (.cells zeros19 208)).heap.size = w.heap.size + 2 := by simp
 have HN : Hid (_) := gnumber_any B gx 4 s σ vt fx _ hd hs hf.pos hy (by omega)
 have nb := numF_ltK s 4 16 σ rfl
 have f1 := hf.num 4
 generalize numF s 4 σ = q at HN nb f1 ⊢
 obtain ⟨m0, σ1⟩ := q
 simp only at HN nb f1 ⊢
 obtain ⟨goal, hgoal⟩ : ∃ goal, goal = headGo s (m0 + 4) 0 (fun _ => 0) σ1 := ⟨_, rfl⟩
 rw [← hgoal]
 have HG : Hid (_) := hgoal
 clear hgoal
 go_enter Tryz.func150, Tryz.ntmps150
 go_wp2_with fail
 refine Calls.mono HN.out ?_
 rintro e w1 ⟨he, h1, k1⟩
 have K1 := hK1.trans k1
 obtain ⟨g2, hg2⟩ : ∃ g2, g2 = w.heap.size := ⟨_, rfl⟩
 obtain ⟨g3, hg3⟩ : ∃ g3, g3 = w.heap.size + 1 := ⟨_, rfl⟩
 rw [← hg2] at hres
 rw [← hg3] at hrow
 have g2x : g2 ≠ gx := by omega
 have g3x : g3 ≠ gx := by omega
 have v2 : vt.ownBlock ≠ some g2 := fun e => by have := hvn _ e; omega
 have v3 : vt.ownBlock ≠ some g3 := fun e => by have := hvn _ e; omega
 have v0 : vt.ownBlock ≠ some 1 := fun e => by have := hvn _ e; omega
 have ox : 1 ≠ gx := by omega
 have res1 := (k1.block g2 (by omega) g2x v2).trans hres
 have row1 := hrow.of_block (k1.block g3 (by omega) g3x v3)
 have ord1 := hord.kp K1 ox v0
 have hw3 : w.heap.size ≤ g3 := by omega
 have hw2 : w.heap.size ≤ g2 := by omega
 have h23 : g2 ≠ g3 := by omega
 have h03 : (1 : Nat) ≠ g3 := by omega
 have hs1 : g2 < w1.heap.size := by have := k1.size; omega
 rw [← hg3, ← hg2]
 clear hg2 hg3 HN hd hK1 hres hrow k1 hf hy h e1 hsz1 hord
 by_cases hy1 : σ1.why = 0
 ·
  rw [endOf_ok hy1] at he; subst he
  obtain ⟨m, hm⟩ : ∃ m, m = m0 + 4 := ⟨_, rfl⟩
  have hmI : (m0 : Int) + 4 = (m : Int) := by omega
  have hm19 : m ≤ 19 := by omega
  rw [← hm] at HG
  have R0 : LcR B w w1 gx s vt fx g2 g3 1 m 0 (fun _ => 0) σ1 goal := ⟨h1, K1, f1, hy1, row1, res1, ord1, fun _ => by omega, HG.out.symm⟩
  clear h1 K1 f1 hy1 row1 res1 ord1 HG hm nb
  go_wp2_with fail
  go_loopw [4, 12] (fun _ i wr => ∃ (k r : Nat) (f : Nat → Nat) (σ2 : St), k + r = m ∧ i = .int .i64 (k : Nat) ∧ g2 < wr.heap.size ∧ LcR B w wr gx s vt fx g2 g3 1 r k f σ2 goal) (fun _ i _ => m - (intOf i).toNat)
  case atStart => exact ⟨0, m, _, σ1, by omega, rfl, hs1, R0⟩
  case round =>
   obtain ⟨k, r, f, σ2, hkr, rfl, hl2, hrel⟩ := hrel
   clear R0 hs1
   by_cases h0 : 0 < r
   ·
    obtain ⟨r', rfl⟩ : ∃ r', r = r' + 1 := ⟨r - 1, by omega⟩
    have hkm : (k : Int) < (m : Int) := by omega
    have hk19 : k < 19 := by omega
    have ck := hrel.ord.cell k hk19
    have hol := ordN_lt k hk19
    have hkI : (k : Int) < 19 := by omega
    have holI : (ordN k : Int) < 19 := by omega
    have hrd : Rd B wr.drew gx s σ2 vt fx := hrel.rd.drew
    have HF : Hid (_) := fun w2 a b c => hrel.fail (w2 := w2) a b c
    have HS : Hid (_) := fun w2 a b c => hrel.step (w2 := w2) a b c g2x g3x ox v2 v3 v0 h23 h03 hw3 hl2
    have hfit := hrel.fit
    have hwhy := hrel.why
    clear hrel
    go_wp2_with fail
    refine wp_region_any (by kernel_rfl) ?_
    change wpAny _ _ _ _ _ _ _ (World.drew _)
    refine wpAny_take (i := 0) (v := .int .i64 (k : Nat)) rfl (by kernel_rfl) (by kernel_rfl) (by kernel_rfl) (fun _ _ _ h => h) (Or.inl ⟨by rfl, ?_⟩) ?_
    · intro w; go_simp
    refine wpAny_take (i := 1) (v := .pointer (some ⟨1, k, none⟩)) rfl (by kernel_rfl) (by kernel_rfl) (by kernel_rfl) (fun _ _ _ h => h) (Or.inl ⟨by rfl, ?_⟩) ?_
    · intro w; go_simp
    refine wpAny_take (i := 3) (v := .pointer (some ⟨gx, 0, none⟩)) rfl (by kernel_rfl) (by kernel_rfl) (by kernel_rfl) (fun _ _ _ h => h) (Or.inl ⟨by rfl, ?_⟩) ?_
    · intro w; go_simp
    refine wpAny_take (i := 4) (v := .pointer (some ⟨gx, 0, none⟩)) rfl (by kernel_rfl) (by kernel_rfl) (by kernel_rfl) (fun _ _ _ h => h) (Or.inl ⟨by rfl, ?_⟩) ?_
    · intro w; go_simp
    refine wpAny_take (i := 5) (v := .pointer (some ⟨gx, 0, none⟩)) rfl (by kernel_rfl) (by kernel_rfl) (by kernel_rfl) (fun _ _ _ h => h) (Or.inl ⟨by rfl, ?_⟩) ?_
    · intro w; go_simp
    refine wpAny_ready (rs := [2, 6]) (by kernel_rfl) (by simp) ?_
    refine AllReady.cons rfl (fun K hK => ?_) (AllReady.cons rfl (fun K hK => ?_) AllReady.nil)
    ·
     go_simp
     refine hK _ _ ?_
     clear hK K
     refine wpAny_ready (rs := [6]) (by kernel_rfl) (by simp) ?_
     refine AllReady.cons rfl (fun K hK => ?_) AllReady.nil
     go_simp
     go_at_call 122
     refine (gnumber_any B gx 3 s σ2 vt fx _ hrd hs hfit.pos hwhy (by omega)).mono ?_
     rintro e w2 ⟨he, h2, k2⟩
     have k2' : Kp wr w2 gx vt := ⟨k2.os, k2.tape, k2.output, k2.size, k2.block⟩
     have hsz2 := k2'.size
     by_cases hyn : (numF s 3 σ2).2.why = 0
     ·
      rw [endOf_ok hyn] at he; subst he
      obtain ⟨row2, ord2, R⟩ := HS.out w2 h2 k2' hyn
      have cw := row2.cell (i := ordN k) hol
      have fw := row2.frozen (ordN k)
      have co2 := ord2.cell k hk19
      clear HS HF h2 k2 k2' row2 ord2 hyn
      generalize numF s 3 σ2 = q at R ⊢
      go_simp
      first | (refine hK _ _ ?_; clear hK K) | skip
      refine wpAny_take (i := 7) (v := .pointer (some ⟨g3, ordN k, none⟩)) rfl (by kernel_rfl) (by kernel_rfl) (by kernel_rfl) (fun _ _ _ h => h) (Or.inl ⟨by rfl, ?_⟩) ?_
      · intro w; go_simp
      refine wpAny_ready (rs := [8]) (by kernel_rfl) (by simp) ?_
      refine AllReady.cons rfl (fun K hK => ?_) AllReady.nil
      go_simp
      refine hK _ _ ?_
      clear hK K
      refine wpAny_done (by kernel_rfl) ?_ _
      go_wp2
      go_roundw
      case rel => exact ⟨k + 1, r', _, _, by omega, by go_num, by simp [World.setCell]; omega, R⟩
      case measure => simp [intOf]; omega
     ·
      rw [endOf_bad hyn] at he; subst he
      have P := HF.out w2 h2 k2' hyn
      rw [endOf_bad hyn] at P
      clear HS HF hK h2 k2 k2'
      go_wp2
      exact ⟨rfl, P⟩
    ·
     go_simp
     go_at_call 122
     refine (gnumber_any B gx 3 s σ2 vt fx _ hrd hs hfit.pos hwhy (by omega)).mono ?_
     rintro e w2 ⟨he, h2, k2⟩
     have k2' : Kp wr w2 gx vt := ⟨k2.os, k2.tape, k2.output, k2.size, k2.block⟩
     have hsz2 := k2'.size
     by_cases hyn : (numF s 3 σ2).2.why = 0
     ·
      rw [endOf_ok hyn] at he; subst he
      obtain ⟨row2, ord2, R⟩ := HS.out w2 h2 k2' hyn
      have cw := row2.cell (i := ordN k) hol
      have fw := row2.frozen (ordN k)
      have co2 := ord2.cell k hk19
      clear HS HF h2 k2 k2' row2 ord2 hyn
      generalize numF s 3 σ2 = q at R ⊢
      go_simp
      first | (refine hK _ _ ?_; clear hK K) | skip
      refine wpAny_ready (rs := [2]) (by kernel_rfl) (by simp) ?_
      refine AllReady.cons rfl (fun K hK => ?_) AllReady.nil
      go_simp
      refine hK _ _ ?_
      clear hK K
      refine wpAny_take (i := 7) (v := .pointer (some ⟨g3, ordN k, none⟩)) rfl (by kernel_rfl) (by kernel_rfl) (by kernel_rfl) (fun _ _ _ h => h) (Or.inl ⟨by rfl, ?_⟩) ?_
      · intro w; go_simp
      refine wpAny_ready (rs := [8]) (by kernel_rfl) (by simp) ?_
      refine AllReady.cons rfl (fun K hK => ?_) AllReady.nil
      go_simp
      refine hK _ _ ?_
      clear hK K
      refine wpAny_done (by kernel_rfl) ?_ _
      go_wp2
      go_roundw
      case rel => exact ⟨k + 1, r', _, _, by omega, by go_num, by simp [World.setCell]; omega, R⟩
      case measure => simp [intOf]; omega
     ·
      rw [endOf_bad hyn] at he; subst he
      have P := HF.out w2 h2 k2' hyn
      rw [endOf_bad hyn] at P
      clear HS HF hK h2 k2 k2'
      go_wp2
      exact ⟨rfl, P⟩
   ·
    obtain rfl : r = 0 := by omega
    obtain rfl : k = m := by omega
    have heq := hrel.eq
    simp only [headGo] at heq
    have hI : IntsAt wr g3 0 19 (headZ f) := ⟨fun i hi => by rw [Nat.zero_add]; exact hrel.row.cell hi, hrel.row.lt⟩
    have hrg := fun i => headZ_rng hrel.low i
    have hrd := hrel.rd
    have hkp := hrel.kp
    have hres := hrel.res
    have hwhy := hrel.why
    have hf8 := fitB_iff (z := headZ f) (n := 19) (by omega) (fun i _ => hrg i)
    have hlg2 := hl2
    clear hrel
    go_wp2_with fail
    refine (fitting_any g3 0 19 19 (headZ f) _ hI (by omega)).mono ?_
    rintro e w2 ⟨A, rfl, ⟨hA1, hA2⟩, hA3, hb2⟩
    have k2 : Kp wr w2 gx vt := Kp.below hb2 gx vt
    have h2 := hrd.kp' k2 hb2
    have res2 := (hb2.block g2 hl2).trans hres
    have K2 := hkp.trans k2
    have hnew := heap_alloc_last w2 (.cells A 185)
    have hi : (Tryz.prog.info? 185).map (·.size) = some A.size := by rw [hA1]; exact Tryz.size185
    have hzs : zeros17.size = A.size := by rw [hA1]; rfl
    have hsz2 := hb2.size
    have h3 := h2.alloc (.cells A 185)
    have K3 := K2.trans (Kp.alloc w2 (.cells A 185) gx vt)
    have res3 : (w2.alloc (.cells A 185)).heap[g2]? = _ := (Below.heap_alloc w2 _ _ (by omega)).trans res2
    clear hrd hkp hres hI k2 h2 K2 res2 hb2
    go_upto_region 8 with ((with_reducible refine wpList_store_new (w := w2) ?g1 185 (.tmp 5) (.tmp 27) ?g2 A ?g3 ?g4 _ hi ?g5 hA2 ?g6); (case g1 => rfl); (case g2 => rfl); (case g3 => rfl); (case g4 => rfl); (case g5 => rw [hA1]; rfl))
    cases hok : fitB (headZ f) 19
    ·
     have hgo2 : lcEnd goal = { σ2 with why := 1 } := by
      rw [← heq]
      exact lcEnd_bad (a := (f, σ2)) hwhy (fun e => by rw [hf8.2 e] at hok; exact absurd hok (by simp))
     have HE : Hid (lcEnd goal = { σ2 with why := 1 }) := hgo2
     clear hgo2 heq hf8 hA3
     go_wp2_with fail
     refine (wrong_any _).mono ?_
     rintro e w4 ⟨rfl, rfl⟩
     rw [endOf_bad (by omega)]
     go_wp2
     refine ⟨rfl, ?_, K3, Or.inr ⟨?_, ?_⟩⟩
     · rw [HE.out]; exact h3.congr rfl rfl
     · rw [HE.out]; show (1 : Nat) ≠ 0; omega
     · rw [HE.out]; rfl
    ·
     obtain ⟨g, sy, hAe, hg, hrow, hsy⟩ := hA3 hok
     have hgo2 : lcEnd goal = σ2 := by rw [← heq]; exact lcEnd_ok (a := (f, σ2)) (hf8.1 hok)
     have hg1 : goal.1 = f := by rw [← heq]
     have HE : Hid (lcEnd goal = σ2) := hgo2
     have HG1 : Hid (goal.1 = f) := hg1
     have hset : SetIn (w2.alloc (.cells A 185)) (headZ f) 19 g sy := ⟨fit_tidy hok, by omega, hrow.alloc _, hsy⟩
     have hwg : w.heap.size ≤ g := by have := K3.size; omega
     have HAe : Hid (_) := hAe
     clear hgo2 hg1 heq hf8 hAe
     have hgl2 : g2 ≠ g := by omega
     have hne := setRow_heap (w2.alloc (.cells A 185)) g2 zeros17 A 185 (0, 0) res3
     have hset4 : SetIn ((w2.alloc (.cells A 185)).setRow g2 A) (headZ f) 19 g sy := ⟨hset.tidy, hset.many, hset.row.of_block (setRow_other _ g2 g A (fun e => hgl2 e.symm)), hset.ok⟩
     have h4 : Rd B ((w2.alloc (.cells A 185)).setRow g2 A) gx s σ2 vt fx := h3.setRow (fun e => g2x e.symm) v2 A
     have K4 : Kp w ((w2.alloc (.cells A 185)).setRow g2 A) gx vt := K3.setRow (by omega) A
     go_upto_region 10 with fail
     go_wp2_with (first | ((with_reducible refine wpList_load_row ?l1 185 (.tmp 5) ?l2 w2.heap.size ?l3 185 A (0, 0) _ hnew Tryz.underlying185 ?l4 hi ?l5); (case l1 => rfl); (case l2 => rfl); (case l3 => rfl); (case l4 => rfl)) | ((with_reducible refine wpList_store_row ?r1 185 (.tmp 2) (.tmp 32) ?r2 g2 A ?r3 ?r4 185 zeros17 res3 hi hzs hA2 ?r5); (case r1 => rfl); (case r2 => rfl); (case r3 => rfl); (case r4 => rfl)))
     refine bodyPost_ret (v := .agg A) (results_cell_row Tryz.results150 _ _ g2 185 A (0, 0) _ rfl hne Tryz.underlying185 rfl hi) rfl ?_
     refine ⟨by rw [HE.out]; exact h4, K4, Or.inl ⟨by rw [HE.out]; exact hwhy, g, sy, ?_, by rw [HG1.out]; exact hset4, hwg⟩⟩
     rw [HG1.out, HAe.out]
     rfl
 ·
  rw [endOf_bad hy1] at he; subst he
  have e : goal.2 = σ1 := by rw [HG.out]; exact headGo_dead _ _ _ hy1
  have e2 : lcEnd goal = σ1 := by rw [lcEnd_dead (by rw [e]; exact hy1), e]
  have P : LcPost B w gx s vt fx goal (endOf σ1.why .nilFunc) w1 := ⟨by rw [e2]; exact h1, K1, Or.inr ⟨by rw [e2]; exact hy1, by rw [e2]⟩⟩
  rw [endOf_bad hy1] at P
  clear HG e e2
  go_wp2
  exact ⟨rfl, P⟩
end Go.Proofs.YtecddphahiadlaaGreatDoor
