import Derived.Test.YtecddphahiadlaaGreatDoorCGKind1
import Derived.Test.YtecddphahiadlaaGreatDoorCCfgR
import Derived.Defers
import Derived.Recover
import Derived.Test.YtecddphahiadlaaGreatDoorCClone
import Derived.Lib.BufferRead
/- The program's reader at a place to which it can go back: in memory; its keep and size. -/
namespace Go.Proofs.YtecddphahiadlaaGreatDoor
open Go.RowKit
/-- Where a plan is, if there is one. -/
def PlanIn (S : Nat → Prop) (w : World) (gx : Nat) (vt pl : Value) : Option Pl → Prop
 | none => pl = .pointer none
 | some p => ∃ gp, pl = .pointer (some ⟨gp, 0, none⟩) ∧ PlanOk S w gx vt gp p.z1 p.n1 p.z2 p.n2 ∧ p.n1 ≤ 288 ∧ p.n2 ≤ 288
theorem PlanIn.kp {S : Nat → Prop} {w w' : World} {gx : Nat} {vt vt' pl : Value} {o : Option Pl} (h : PlanIn S w gx vt pl o) (k : Kp w w' gx vt) (f : ∀ g, vt'.ownBlock = some g → vt.ownBlock = some g ∨ w.heap.size ≤ g) : PlanIn S w' gx vt' pl o := by
 cases o with
 | none => exact h
 |
  some p =>
  obtain ⟨gp, h1, h2, h3⟩ := h
  exact ⟨gp, h1, h2.kp k f, h3⟩
theorem PlanIn.mono {S S' : Nat → Prop} {w : World} {gx : Nat} {vt pl : Value} {o : Option Pl} (h : PlanIn S w gx vt pl o) (hS : ∀ b, S b → S' b) : PlanIn S' w gx vt pl o := by
 cases o with
 | none => exact h
 |
  some p =>
  obtain ⟨gp, h1, h2, h3⟩ := h
  exact ⟨gp, h1, h2.mono hS, h3⟩
/-- What a call on the reader leaves of its block's make. -/
structure Ex.like (x x' : Ex) : Prop where
 ty : x'.ty = x.ty
 n : x'.n = x.n
 more : x'.more = x.more
theorem Ex.like.refl (x : Ex) : x.like x := ⟨rfl, rfl, rfl⟩
theorem Ex.like.trans {x y z : Ex} (h : x.like y) (k : y.like z) : x.like z := ⟨k.ty.trans h.ty, k.n.trans h.n, k.more.trans h.more⟩
/-- The reader: it can go back to (m, σ), and its next bit is number p. -/
structure RdA (S : Nat → Prop) (B : Nat) (w : World) (gx : Nat) (s : ByteArray) (m : Md) (σ : St) (vt : Value) (x : Ex) (p : Nat) : Prop where
 rd : Rd B w gx s { σ with pos := p } vt x
 kept : x.kp = σ.pos
 last : x.last = m.last
 bare : x.bare = m.bare
 few : m.bare ≤ 65535
 plan : PlanIn S w gx vt x.pl m.plan
 fix : FixOk S w gx vt x.fx
theorem RdA.mono {S S' : Nat → Prop} {B : Nat} {w : World} {gx : Nat} {s : ByteArray} {m : Md} {σ : St} {vt : Value} {x : Ex} {p : Nat} (h : RdA S B w gx s m σ vt x p) (hS : ∀ b, S b → S' b) : RdA S' B w gx s m σ vt x p :=
 ⟨h.rd, h.kept, h.last, h.bare, h.few, h.plan.mono hS, h.fix.mono hS⟩
theorem RdA.at' {S : Nat → Prop} {B : Nat} {w : World} {gx : Nat} {s : ByteArray} {m : Md} {σ : St} {vt : Value} {x : Ex} (h : RdA S B w gx s m σ vt x σ.pos) : Rd B w gx s σ vt x := h.rd
/-- Another world, in which the reader stands as it stood but for its place. -/
theorem RdA.fail {S : Nat → Prop} {B : Nat} {w w' : World} {gx : Nat} {s : ByteArray} {m : Md} {σ σ' : St} {vt vt' : Value} {x : Ex} {p : Nat} (h : RdA S B w gx s m σ vt x p) (k : Kp w w' gx vt) (f : ∀ g, vt'.ownBlock = some g → vt.ownBlock = some g ∨ w.heap.size ≤ g) (hr : Rd B w' gx s σ' vt' x) (ht : σ'.text = σ.text) : RdA S B w' gx s m σ vt' x σ'.pos :=
 ⟨hr.congr rfl ht.symm, h.kept, h.last, h.bare, h.few, h.plan.kp k f, h.fix.kp k f⟩
/-- How a call on the reader ends: at another place that it can go back to, or where it gave up. -/
def StepP (S : Nat → Prop) (B : Nat) (w : World) (gx : Nat) (s : ByteArray) (m : Md) (σ : St) (vt : Value) (x : Ex) (g : Md × St) (e : Ending) (w' : World) : Prop :=
 e = endOf g.2.why (.tuple #[]) ∧ ∃ vt' x' p, x.like x' ∧ Kp w w' gx vt ∧ (∀ g, vt'.ownBlock = some g → vt.ownBlock = some g ∨ w.heap.size ≤ g) ∧
  ((g.2.why = 0 ∧ p = g.2.pos ∧ RdA (SN S w.heap.size) B w' gx s g.1 g.2 vt' x' p) ∨ (g.2.why ≠ 0 ∧ RdA (SN S w.heap.size) B w' gx s m σ vt' x' p))
section
variable {B : Nat} {w : World} {gx : Nat} {s : ByteArray} {σ : St} {vt : Value} {x : Ex}
theorem Rd.setBare (h : Rd B w gx s σ vt x) (n : Nat) : Rd B (w.setCell ⟨gx, 7, none⟩ (.int .i64 (n : Nat))) gx s σ vt { x with bare := n } :=
 h.setC 7 _ rfl rfl (p := σ.pos) (fx2 := { x with bare := n }) (fun i => by
  unfold rdCell
  by_cases e : i = 7
  · subst e; rfl
  · simp only [if_neg e])
theorem Rd.setLast (h : Rd B w gx s σ vt x) (b : Bool) : Rd B (w.setCell ⟨gx, 6, none⟩ (.bool b)) gx s σ vt { x with last := b } :=
 h.setC 6 _ rfl rfl (p := σ.pos) (fx2 := { x with last := b }) (fun i => by
  unfold rdCell
  by_cases e : i = 6
  · subst e; rfl
  · simp only [if_neg e])
theorem Rd.setPl (h : Rd B w gx s σ vt x) (v : Value) : Rd B (w.setCell ⟨gx, 8, none⟩ v) gx s σ vt { x with pl := v } :=
 h.setC 8 _ rfl rfl (p := σ.pos) (fx2 := { x with pl := v }) (fun i => by
  unfold rdCell
  by_cases e : i = 8
  · subst e; rfl
  · simp only [if_neg e])
theorem Rd.setKept (h : Rd B w gx s σ vt x) (p : Nat) : Rd B (w.setCells gx 3 [.int .i64 (p / 8 : Nat), .int .i64 (p % 8 : Nat)]) gx s σ vt { x with kp := p } := by
 have h1 : Rd B (w.setCell ⟨gx, 3, none⟩ (.int .i64 (p / 8 : Nat))) gx s σ vt { x with kp := 8 * (p / 8) + x.kp % 8 } :=
  h.setC 3 _ rfl rfl (p := σ.pos) (fx2 := { x with kp := 8 * (p / 8) + x.kp % 8 }) (fun i => by
   have e1 : (8 * (p / 8) + x.kp % 8) / 8 = p / 8 := by omega
   have e2 : (8 * (p / 8) + x.kp % 8) % 8 = x.kp % 8 := by omega
   unfold rdCell
   simp only [e1, e2]
   by_cases e : i = 3
   · subst e; rfl
   · simp only [if_neg e])
 exact h1.setC 4 _ rfl rfl (p := σ.pos) (fx2 := { x with kp := p }) (fun i => by
  have e1 : (8 * (p / 8) + x.kp % 8) / 8 = p / 8 := by omega
  unfold rdCell
  simp only [e1]
  by_cases e : i = 4
  · subst e; rfl
  · simp only [if_neg e])
theorem Rd.place (h : Rd B w gx s σ vt x) : w.rangeAt gx 1 [.int .i64 (σ.pos / 8 : Nat), .int .i64 (σ.pos % 8 : Nat)] := fun j v hv => by
 match j, hv with
 | 0, hv => simp at hv; rw [← hv]; exact h.c1
 | 1, hv => simp at hv; rw [← hv]; exact h.c2
 | j + 2, hv => simp at hv
end
theorem Kp.setX {w w' : World} {gx : Nat} {vt : Value} (h : Kp w w' gx vt) (o : Nat) (vs : List Value) : Kp w (w'.setCells gx o vs) gx vt := by
 induction vs generalizing o w' with
 | nil => exact h
 | cons v r ih => exact ih (h.set o v) (o + 1)
set_option maxHeartbeats 400000 in
theorem keep_any (B gx : Nat) (s : ByteArray) (σ : St) (vt : Value) (x : Ex) (w : World) (h : Rd B w gx s σ vt x) :
 Calls Tryz.prog 123 #[.pointer (some ⟨gx, 0, none⟩)] w fun e w' => e = .returned (.tuple #[]) ∧ Rd B w' gx s σ vt { x with kp := σ.pos } ∧ Kp w w' gx vt := by
 have c1 := h.c1
 have c2 := h.c2
 have k1 := h.ck1
 have k2 := h.ck2
 have f3 := h.fz 3
 have f4 := h.fz 4
 have R := h.setKept σ.pos
 have K := (Kp.refl w gx vt).setX 3 [.int .i64 (σ.pos / 8 : Nat), .int .i64 (σ.pos % 8 : Nat)]
 generalize σ.pos / 8 = a at c1 R K
 generalize σ.pos % 8 = l at c2 R K
 generalize x.kp / 8 = a' at k1
 generalize x.kp % 8 = l' at k2
 clear h
 go_enter Tryz.func123, Tryz.ntmps123
 go_wp2
 go_end0
 exact ⟨rfl, R, K⟩
/- The program's begin: what stands in a block ahead of its text. -/
theorem bit_one (b : Nat) : ((b : Int) == 1) = (b == 1) := by
 rw [Bool.eq_iff_iff, beq_iff_eq, beq_iff_eq]; omega
theorem head_le (s : ByteArray) (σ : St) (h : (ownF s σ).2.why = 0) : (headF s σ).a ≤ 29 ∧ (headF s σ).b ≤ 29 := by
 have h1 := own_dead1 (s := s) (σ := σ) (p := numF s 5 σ) rfl
 by_cases hA : (stop29 (numF s 5 σ)).why = 0
 ·
  obtain ⟨ha, hsA⟩ := stop29_le hA
  have h2 := own_dead2 (s := s) (σ := σ) (σ1 := (numF s 5 σ).2) (a := (numF s 5 σ).1) (p := numF s 5 (stop29 (numF s 5 σ))) rfl hsA (by rw [hsA])
  by_cases hC : (stop29 (numF s 5 (stop29 (numF s 5 σ)))).why = 0
  ·
   obtain ⟨hb, _⟩ := stop29_le hC
   exact ⟨ha, hb⟩
  ·
   rw [h2 hC] at h
   exact absurd h hC
 ·
  rw [h1 hA] at h
  exact absurd h hA
theorem ownF_text (s : ByteArray) (σ : St) : (ownF s σ).2.text = σ.text := by
 have e := qt_own.text s σ
 unfold ownT at e
 generalize ownF s σ = q at e ⊢
 exact e
section
variable {S : Nat → Prop} {B : Nat} {w : World} {gx : Nat} {s : ByteArray} {m : Md} {σ : St} {vt : Value} {x : Ex}
/-- It gave up. -/
theorem StepP.bad {w' : World} {vt' : Value} {σ' : St} {g : Md × St} {v : Value} (h : RdA S B w gx s m σ vt x σ.pos) (k : Kp w w' gx vt) (f : ∀ g, vt'.ownBlock = some g → vt.ownBlock = some g ∨ w.heap.size ≤ g) (hr : Rd B w' gx s σ' vt' x) (hy : σ'.why ≠ 0) (hw : g.2.why = σ'.why) (ht : σ'.text = σ.text) :
 StepP S B w gx s m σ vt x g (endOf σ'.why v) w' :=
 ⟨by rw [hw, endOf_bad hy, endOf_bad hy], vt', x, σ'.pos, Ex.like.refl x, k, f, Or.inr ⟨by rw [hw]; exact hy, (h.fail k f hr ht).mono (fun _ h => Or.inl h)⟩⟩
/-- It has come to another place. -/
theorem StepP.good {w' : World} {vt' : Value} {x' : Ex} {g : Md × St} (k : Kp w w' gx vt) (f : ∀ g, vt'.ownBlock = some g → vt.ownBlock = some g ∨ w.heap.size ≤ g) (hx : x.like x') (hy : g.2.why = 0) (hr : RdA (SN S w.heap.size) B w' gx s g.1 g.2 vt' x' g.2.pos) :
 StepP S B w gx s m σ vt x g (.returned (.tuple #[])) w' :=
 ⟨by rw [endOf_ok hy], vt', x', g.2.pos, hx, k, f, Or.inl ⟨hy, rfl, hr⟩⟩
end
theorem kindM0 (b : Nat) (s : ByteArray) (σ : St) : kindM b 0 s σ = (⟨b == 1, (plainHead s σ).1, none⟩, (plainHead s σ).2) := by unfold kindM; rw [if_pos rfl]
theorem kindM1 (b : Nat) (s : ByteArray) (σ : St) : kindM b 1 s σ = (⟨b == 1, 0, some fixPl⟩, σ) := by unfold kindM; rw [if_neg (by omega), if_pos rfl]
theorem kindM2 (b : Nat) (s : ByteArray) (σ : St) : kindM b 2 s σ = (⟨b == 1, 0, some ⟨lenZ (ownF s σ).1 0, (headF s σ).a + 257, lenZ (ownF s σ).1 ((headF s σ).a + 257), (headF s σ).b + 1⟩⟩, (ownF s σ).2) := by
 unfold kindM ownT ownPl
 rw [if_neg (by omega), if_neg (by omega), if_pos rfl]
theorem kindM3 (b : Nat) (s : ByteArray) (σ : St) : kindM b 3 s σ = (⟨b == 1, 0, none⟩, stopF σ 1) := by unfold kindM; rw [if_neg (by omega), if_neg (by omega), if_neg (by omega)]
set_option maxRecDepth 4000 in
set_option maxHeartbeats 2000000 in
theorem begin_any (S : Nat → Prop) (B gx : Nat) (s : ByteArray) (m : Md) (σ : St) (vt : Value) (x : Ex) (w : World) (h : RdA S B w gx s m σ vt x σ.pos) (hs : s.size ≤ 140737488400000) (hf : Fit s σ) (hy : σ.why = 0) (hgo : 1 < B) (hord : OrdIn w 1) (hb : m.bare = 0) (hp : m.plan = none) :
 Calls Tryz.prog 126 #[.pointer (some ⟨gx, 0, none⟩)] w (StepP S B w gx s m σ vt x (headM s σ)) := by
 have hgB := h.rd.le
 have hvn : ∀ g, vt.ownBlock = some g → B ≤ g := fun g e => (h.rd.own.lt g e).1
 have v0 : vt.ownBlock ≠ some 1 := fun e => by have := hvn _ e; omega
 have ox : 1 ≠ gx := by omega
 have hpl : x.pl = .pointer none := by have := h.plan; rw [hp] at this; exact this
 have hxb : x.bare = 0 := h.bare.trans hb
 have HG : Hid (headM s σ = kindM (bitF s σ).1 (numF s 2 (bitF s σ).2).1 s (numF s 2 (bitF s σ).2).2) := rfl
 generalize headM s σ = goal at HG ⊢
 have HBI : Hid (_) := gbit_any B gx s σ vt x w h.at' hs hf.pos hy
 have f2 := hf.bit
 have t2 := bitF_text s σ
 have hb2 := bitF_lt s σ
 generalize bitF s σ = bb at HBI f2 hb2 HG t2
 obtain ⟨b, σ2⟩ := bb
 simp only at f2 hb2 t2
 go_enter Tryz.func126, Tryz.ntmps126
 go_wp2_with fail
 refine Calls.mono HBI.out ?_
 rintro e w2 ⟨he, h2, k2⟩
 clear HBI
 by_cases hy2 : σ2.why = 0
 ·
  rw [endOf_ok hy2] at he; subst he
  have HNU : Hid (_) := gnumber_any B gx 2 s σ2 vt x w2 h2 hs f2.pos hy2 (by omega)
  have f3 := f2.num 2
  have t3 := (qt_num 2).text s σ2
  have nb := numF_ltK s 2 4 σ2 rfl
  generalize numF s 2 σ2 = q at HNU f3 nb HG t3
  obtain ⟨kd, σ3⟩ := q
  simp only at f3 nb t3
  clear h2
  go_wp2_with fail
  refine Calls.mono HNU.out ?_
  rintro e w3 ⟨he, h3, k3⟩
  have K3 := k2.trans k3
  have fx3 := h.fix.kp K3 (fun _ hg => Or.inl hg)
  clear HNU k2 k3
  by_cases hy3 : σ3.why = 0
  ·
   rw [endOf_ok hy3] at he; subst he
   rcases (by omega : kd = 0 ∨ kd = 1 ∨ kd = 2 ∨ kd = 3) with hc | hc | hc | hc
   ·
    subst hc
    rw [kindM0] at HG
    have HSZ : Hid (_) := size_any B gx s σ3 vt x w3 h3 hs f3 hy3
    have t4 := qt_plainHead.text s σ3
    have n4 : (plainHead s σ3).1 < 65536 := by
     rw [plainHead_of]
     exact numF_ltK s 16 65536 (alignF σ3) rfl
    generalize plainHead s σ3 = q at HSZ HG t4 n4
    obtain ⟨n, σ4⟩ := q
    simp only at t4 n4
    clear h3
    go_wp2_with fail
    refine Calls.mono HSZ.out ?_
    rintro e w4 ⟨he, h4, k4⟩
    have K4 := K3.trans k4
    have fx4 := fx3.kp k4 (fun _ hg => Or.inl hg)
    clear HSZ k4 fx3
    by_cases hy4 : σ4.why = 0
    ·
     rw [endOf_ok hy4] at he; subst he
     have cb := h4.cb
     have cl := h4.cl
     have fb := h4.fz 7
     have fl := h4.fz 6
     have h5 := (h4.setBare n).setLast ((b : Int) == 1)
     have K5 := (K4.set 7 (.int .i64 (n : Nat))).set 6 (.bool ((b : Int) == 1))
     clear h4 K4 K3
     go_wp2_with fail
     refine (keep_any B gx s σ4 vt _ _ h5).mono ?_
     rintro e w6 ⟨rfl, h6, k6⟩
     have fx6 := (fx4.kp (((Kp.refl w4 gx vt).set 7 (.int .i64 (n : Nat))).set 6 (.bool ((b : Int) == 1))) (fun _ hg => Or.inl hg)).kp k6 (fun _ hg => Or.inl hg)
     have P : StepP S B w gx s m σ vt x goal (.returned (.tuple #[])) w6 := by
      rw [HG.out]
      exact StepP.good (x' := { x with bare := n, last := ((b : Int) == 1), kp := σ4.pos }) (K5.trans k6) (fun _ hg => Or.inl hg) ⟨rfl, rfl, rfl⟩ hy4 ⟨h6, rfl, bit_one b, rfl, by show n ≤ 65535; omega, hpl, fx6.mono (fun _ h => Or.inl h)⟩
     clear HG h5 h6 K5 k6 fx4 fx6 cb cl fb fl h
     go_wp2
     go_end0
     exact P
    ·
     have P : StepP S B w gx s m σ vt x goal (endOf σ4.why .nilFunc) w4 := StepP.bad h K4 (fun _ hg => Or.inl hg) h4 hy4 (by rw [HG.out]) (by rw [t4, t3, t2])
     rw [endOf_bad hy4] at he P; subst he
     clear HG h h4 K4 K3 fx4
     go_wp2
     exact ⟨rfl, P⟩
   ·
    subst hc
    rw [kindM1] at HG
    have HK1 : Hid (_) := kind1_any S B gx s σ3 vt x w3 h3 fx3
    have cp := h3.cp
    clear h3
    go_wp2_with fail
    refine Calls.mono HK1.out ?_
    rintro e w4 ⟨gp, rfl, h4, k4, hpo⟩
    have K4 := K3.trans k4
    have hs3 := K3.size
    clear HK1 cp
    have cp := h4.cp
    have cl := h4.cl
    have fb := h4.fz 8
    have fl := h4.fz 6
    have h5 := (h4.setPl (.pointer (some ⟨gp, 0, none⟩))).setLast ((b : Int) == 1)
    have K5 := (K4.set 8 (.pointer (some ⟨gp, 0, none⟩))).set 6 (.bool ((b : Int) == 1))
    clear h4 K4 K3 fx3
    go_wp2_with fail
    refine (keep_any B gx s σ3 vt _ _ h5).mono ?_
    rintro e w6 ⟨rfl, h6, k6⟩
    have hpo6 := (hpo.kp (((Kp.refl w4 gx vt).set 8 (.pointer (some ⟨gp, 0, none⟩))).set 6 (.bool ((b : Int) == 1))) (fun _ hg => Or.inl hg)).kp k6 (fun _ hg => Or.inl hg)
    have hpo7 := hpo6.mono (S' := SN S w.heap.size) (fun b hb => by rcases hb with hb | hb; exact Or.inl hb; exact Or.inr (Nat.le_trans hs3 hb))
    have P : StepP S B w gx s m σ vt x goal (.returned (.tuple #[])) w6 := by
     rw [HG.out]
     exact StepP.good (x' := { x with fx := .pointer (some ⟨gp, 0, none⟩), pl := .pointer (some ⟨gp, 0, none⟩), last := ((b : Int) == 1), kp := σ3.pos }) (K5.trans k6) (fun _ hg => Or.inl hg) ⟨rfl, rfl, rfl⟩ hy3 ⟨h6, rfl, bit_one b, hxb, by show 0 ≤ 65535; omega, ⟨gp, rfl, hpo7, by show 288 ≤ 288; omega, by show 32 ≤ 288; omega⟩, Or.inr ⟨gp, rfl, hpo7⟩⟩
    clear HG h5 h6 K5 k6 hpo hpo6 hpo7 cp cl fb fl h
    go_wp2
    go_end0
    exact P
   ·
    subst hc
    rw [kindM2] at HG
    have HK2 : Hid (_) := kind2_any B gx s σ3 vt x w3 h3 hs f3 hy3 hgo (hord.kp K3 ox v0)
    have hH : (ownF s σ3).2.why = 0 → (headF s σ3).a ≤ 29 ∧ (headF s σ3).b ≤ 29 := head_le s σ3
    have t5 := ownF_text s σ3
    generalize ownF s σ3 = og at HG HK2 hH t5
    generalize headF s σ3 = hd at HG HK2 hH
    obtain ⟨LL, σ4⟩ := og
    simp only at hH t5
    have cp := h3.cp
    clear h3
    go_wp2_with fail
    refine Calls.mono HK2.out ?_
    rintro e w4 ⟨h4, k4, hcase⟩
    simp only at h4 hcase
    have K4 := K3.trans k4
    have fx4 := fx3.kp k4 (fun _ hg => Or.inl hg)
    have hs3 := K3.size
    clear HK2 cp k4 fx3
    rcases hcase with ⟨hy4, gp, rfl, hpo⟩ | ⟨hy4, he⟩
    ·
     obtain ⟨ha29, hb29⟩ := hH hy4
     have cp := h4.cp
     have cl := h4.cl
     have fb := h4.fz 8
     have fl := h4.fz 6
     have h5 := (h4.setPl (.pointer (some ⟨gp, 0, none⟩))).setLast ((b : Int) == 1)
     have K5 := (K4.set 8 (.pointer (some ⟨gp, 0, none⟩))).set 6 (.bool ((b : Int) == 1))
     have HH : Hid (hd.a ≤ 29 ∧ hd.b ≤ 29) := ⟨ha29, hb29⟩
     clear h4 K4 K3 hH ha29 hb29
     go_wp2_with fail
     refine (keep_any B gx s σ4 vt _ _ h5).mono ?_
     rintro e w6 ⟨rfl, h6, k6⟩
     have hpo6 := (hpo.kp (((Kp.refl w4 gx vt).set 8 (.pointer (some ⟨gp, 0, none⟩))).set 6 (.bool ((b : Int) == 1))) (fun _ hg => Or.inl hg)).kp k6 (fun _ hg => Or.inl hg)
     have fx6 := (fx4.kp (((Kp.refl w4 gx vt).set 8 (.pointer (some ⟨gp, 0, none⟩))).set 6 (.bool ((b : Int) == 1))) (fun _ hg => Or.inl hg)).kp k6 (fun _ hg => Or.inl hg)
     have hpo7 := hpo6.mono (S' := SN S w.heap.size) (fun b hb => Or.inr (Nat.le_trans hs3 hb))
     have fx7 := fx6.mono (S' := SN S w.heap.size) (fun _ h => Or.inl h)
     have P : StepP S B w gx s m σ vt x goal (.returned (.tuple #[])) w6 := by
      rw [HG.out]
      exact StepP.good (x' := { x with pl := .pointer (some ⟨gp, 0, none⟩), last := ((b : Int) == 1), kp := σ4.pos }) (K5.trans k6) (fun _ hg => Or.inl hg) ⟨rfl, rfl, rfl⟩ hy4 ⟨h6, rfl, bit_one b, hxb, by show 0 ≤ 65535; omega, ⟨gp, rfl, hpo7, by show hd.a + 257 ≤ 288; have := HH.out; omega, by show hd.b + 1 ≤ 288; have := HH.out; omega⟩, fx7⟩
     clear HG h5 h6 K5 k6 hpo hpo6 hpo7 fx7 fx4 fx6 cp cl fb fl h HH
     go_wp2
     go_end0
     exact P
    ·
     have P : StepP S B w gx s m σ vt x goal (endOf σ4.why .nilFunc) w4 := StepP.bad h K4 (fun _ hg => Or.inl hg) h4 hy4 (by rw [HG.out]) (by rw [t5, t3, t2])
     rw [endOf_bad hy4] at he P; subst he
     clear HG h h4 K4 K3 fx4 hH
     go_wp2
     exact ⟨rfl, P⟩
   ·
    subst hc
    rw [kindM3] at HG
    have P : StepP S B w gx s m σ vt x goal (endOf 1 .nilFunc) w3 := StepP.bad (σ' := { σ3 with why := 1 }) h K3 (fun _ hg => Or.inl hg) (h3.congr rfl rfl) (by show (1 : Nat) ≠ 0; omega) (by rw [HG.out]; show (stopF σ3 1).why = 1; rw [stopF_alive hy3]) (by show σ3.text = _; rw [t3, t2])
    clear HG h h3 K3 fx3
    go_wp2_with fail
    refine (wrong_any _).mono ?_
    rintro e w9 ⟨rfl, rfl⟩
    rw [endOf_bad (by omega)]
    rw [endOf_bad (by omega)] at P
    go_wp2
    exact ⟨rfl, P⟩
  ·
   have hd3 := (gd_kindM b kd).dead s σ3 hy3
   have P : StepP S B w gx s m σ vt x goal (endOf σ3.why .nilFunc) w3 := StepP.bad h K3 (fun _ hg => Or.inl hg) h3 hy3 (by rw [HG.out]; exact hd3.1) (by rw [t3, t2])
   rw [endOf_bad hy3] at he P; subst he
   clear HG h h3 K3 fx3 hd3
   go_wp2
   exact ⟨rfl, P⟩
 ·
  have e2 := numF_dead (s := s) 2 hy2
  have hd2 := (gd_kindM b (numF s 2 σ2).1).dead s (numF s 2 σ2).2 (by rw [e2]; exact hy2)
  have P : StepP S B w gx s m σ vt x goal (endOf σ2.why .nilFunc) w2 := StepP.bad h k2 (fun _ hg => Or.inl hg) h2 hy2 (by rw [HG.out]; exact hd2.1.trans (by rw [e2])) t2
  rw [endOf_bad hy2] at he P; subst he
  clear HG h h2 k2 hd2 e2
  go_wp2
  exact ⟨rfl, P⟩
/- Block behind block: plain facts for the program's reader. -/
theorem kp_chain {w w1 w2 : World} {gx : Nat} {vt vt1 : Value} (k1 : Kp w w1 gx vt) (f1 : ∀ g, vt1.ownBlock = some g → vt.ownBlock = some g ∨ w.heap.size ≤ g) (k2 : Kp w1 w2 gx vt1) : Kp w w2 gx vt := by
 refine ⟨k2.os.trans k1.os, k2.tape.trans k1.tape, k2.output.trans k1.output, Nat.le_trans k1.size k2.size, fun b hb hx hv => ?_⟩
 rw [k2.block b (Nat.lt_of_lt_of_le hb k1.size) hx (fun e => ?_), k1.block b hb hx hv]
 rcases f1 b e with e' | e'
 · exact hv e'
 · omega
theorem fr_chain {w w1 : World} {gx : Nat} {vt vt1 vt2 : Value} (k1 : Kp w w1 gx vt) (f1 : ∀ g, vt1.ownBlock = some g → vt.ownBlock = some g ∨ w.heap.size ≤ g) (f2 : ∀ g, vt2.ownBlock = some g → vt1.ownBlock = some g ∨ w1.heap.size ≤ g) : ∀ g, vt2.ownBlock = some g → vt.ownBlock = some g ∨ w.heap.size ≤ g := by
 intro g hg
 rcases f2 g hg with e | e
 · exact f1 g e
 · exact Or.inr (Nat.le_trans k1.size e)
theorem numF_more {s : ByteArray} {n : Nat} {σ : St} (h : (numF s (n + 1) σ).2.why = 0) : σ.pos < (numF s (n + 1) σ).2.pos := by
 have hg := numF_ge s n (bitF s σ).2
 have ha := numF_alive (s := s) n (σ := (bitF s σ).2)
 have hm := bitF_more (s := s) (σ := σ)
 simp only [numF] at h ⊢
 generalize numF s n (bitF s σ).2 = q at h hg ha ⊢
 have := hm (ha h)
 omega
theorem numF_moreK (s : ByteArray) (n : Nat) (hn : 0 < n) (σ : St) (h : (numF s n σ).2.why = 0) : σ.pos < (numF s n σ).2.pos := by
 obtain ⟨k, rfl⟩ : ∃ k, n = k + 1 := ⟨n - 1, by omega⟩
 exact numF_more h
theorem putF_alive {σ : St} {c : UInt8} (h : (putF σ c).why = 0) : σ.why = 0 := by
 by_cases e : σ.why = 0
 · exact e
 · rw [putF_dead e] at h; exact h
theorem kindM_ge (b k : Nat) (s : ByteArray) (σ : St) : σ.pos ≤ (kindM b k s σ).2.pos := by
 unfold kindM
 split
 · exact plainHead_ge s σ
 ·
  split
  · exact Nat.le_refl _
  ·
   split
   ·
    have e := ownF_ge s σ
    unfold ownT
    generalize ownF s σ = q at e ⊢
    exact e
   · rw [stopF_pos]; exact Nat.le_refl _
/-- Each step takes a bit at least. -/
theorem stepM_more {m : Md} {s : ByteArray} {σ : St} (h : (stepM m s σ).2.why = 0) : σ.pos < (stepM m s σ).2.pos := by
 by_cases hb : 0 < m.bare
 ·
  rw [stepM_bare hb] at h ⊢
  have e := numF_moreK s 8 (by omega) σ
  unfold bareM at h ⊢
  generalize numF s 8 σ = q at e h ⊢
  simp only at h ⊢
  rw [putF_pos]
  exact e (putF_alive h)
 ·
  cases hp : m.plan with
  |
   some p =>
   rw [stepM_sym (by omega) hp] at h ⊢
   have hg := stepF_ge s (codeT p.z2 p.n2) p.n2 (thereN (codeT p.z2 p.n2) p.n2) (symF s (codeT p.z1 p.n1) p.n1 σ)
   have hm := symF_more (s := s) (c := codeT p.z1 p.n1) (n := p.n1) (σ := σ)
   unfold symM symP at h ⊢
   simp only at h ⊢
   generalize symF s (codeT p.z1 p.n1) p.n1 σ = q at h hg hm ⊢
   have ha : q.2.why = 0 := by
    by_cases e : q.2.why = 0
    · exact e
    · unfold stepF at h; rw [if_pos (Or.inl e)] at h; exact h
   have := hm ha
   omega
  |
   none =>
   rw [stepM_head (by omega) hp] at h ⊢
   have hm := bitF_more (s := s) (σ := σ)
   have ha := numF_alive (s := s) 2 (σ := (bitF s σ).2)
   have hg := numF_ge s 2 (bitF s σ).2
   unfold headM at h ⊢
   generalize numF s 2 (bitF s σ).2 = q at h ha hg ⊢
   have hk := kindM_ge (bitF s σ).1 q.1 s q.2
   have hd := (gd_kindM (bitF s σ).1 q.1).dead s q.2
   have hq : q.2.why = 0 := by
    by_cases e : q.2.why = 0
    · exact e
    · rw [(hd e).1] at h; exact absurd h e
   have := hm (ha hq)
   omega
theorem stepM_rest {m : Md} {s : ByteArray} {σ : St} (hf : Fit s σ) (hy : σ.why = 0) (h : (stepM m s σ).2.why = 0) : restN s (stepM m s σ).2 < restN s σ := by
 have h1 := stepM_more h
 have h2 := ((gd_stepM m).fit s σ hf).pos
 have h3 := hf.pos
 unfold restN
 rw [if_pos hy, if_pos h]
 omega
/-- What blocks answers. -/
def BkP (S : Nat → Prop) (B : Nat) (w : World) (gx : Nat) (s : ByteArray) (m : Md) (σ : St) (vt : Value) (x : Ex) (e : Ending) (w' : World) : Prop :=
 ∃ y m' σ' vt' x' p, Goes s m σ y m' σ' ∧ e = endOf y (.tuple #[]) ∧ x.like x' ∧ Kp w w' gx vt ∧ (∀ g, vt'.ownBlock = some g → vt.ownBlock = some g ∨ w.heap.size ≤ g) ∧ RdA (SN S w.heap.size) B w' gx s m' σ' vt' x' p ∧ (y = 0 → p = σ'.pos)
/-- The state of the loops. -/
structure LpR (S : Nat → Prop) (B : Nat) (w wr : World) (gx : Nat) (s : ByteArray) (m : Md) (σ : St) (vt : Value) (x : Ex) (f : Nat) (m1 : Md) (σ1 : St) : Prop where
 st : Steps s m σ m1 σ1
 fit : Fit s σ1
 why : σ1.why = 0
 few : restN s σ1 ≤ f
 run : ∃ vt1 x1, x.like x1 ∧ Kp w wr gx vt ∧ (∀ g, vt1.ownBlock = some g → vt.ownBlock = some g ∨ w.heap.size ≤ g) ∧ RdA (SN S w.heap.size) B wr gx s m1 σ1 vt1 x1 σ1.pos
section
variable {S : Nat → Prop} {B : Nat} {w wr : World} {gx : Nat} {s : ByteArray} {m : Md} {σ : St} {vt : Value} {x : Ex} {f : Nat} {m1 : Md} {σ1 : St}
/-- A step that is taken. -/
theorem LpR.go (h : LpR S B w wr gx s m σ vt x f m1 σ1) (ho : ¬ m1.over) {w2 : World} {q : Md × St} (hq : stepM m1 s σ1 = q) (hy : q.2.why = 0) {vt1 vt2 : Value} {x1 x2 : Ex} (hl1 : x.like x1) (hk1 : Kp w wr gx vt) (hf1 : ∀ g, vt1.ownBlock = some g → vt.ownBlock = some g ∨ w.heap.size ≤ g)
 (hl2 : x1.like x2) (hk2 : Kp wr w2 gx vt1) (hf2 : ∀ g, vt2.ownBlock = some g → vt1.ownBlock = some g ∨ wr.heap.size ≤ g) (hr : RdA (SN (SN S w.heap.size) wr.heap.size) B w2 gx s q.1 q.2 vt2 x2 q.2.pos) : LpR S B w w2 gx s m σ vt x (f - 1) q.1 q.2 ∧ 1 ≤ f := by
 subst hq
 have hr1 := stepM_rest h.fit h.why hy
 have hfw := h.few
 refine ⟨⟨h.st.trans (Steps.one ho rfl hy), (gd_stepM m1).fit s σ1 h.fit, hy, by omega, vt2, x2, hl1.trans hl2, kp_chain hk1 hf1 hk2, fr_chain hk1 hf1 hf2, hr.mono (SN.low hk1.size)⟩, by omega⟩
/-- A step that gives up. -/
theorem LpR.stop (h : LpR S B w wr gx s m σ vt x f m1 σ1) (ho : ¬ m1.over) {w2 : World} {q : Md × St} (hq : stepM m1 s σ1 = q) {y : Nat} (hqy : q.2.why = y) (hy : y ≠ 0) {vt1 vt2 : Value} {x1 x2 : Ex} {p : Nat} {v : Value} (hl1 : x.like x1) (hk1 : Kp w wr gx vt) (hf1 : ∀ g, vt1.ownBlock = some g → vt.ownBlock = some g ∨ w.heap.size ≤ g)
 (hl2 : x1.like x2) (hk2 : Kp wr w2 gx vt1) (hf2 : ∀ g, vt2.ownBlock = some g → vt1.ownBlock = some g ∨ wr.heap.size ≤ g) (hr : RdA (SN (SN S w.heap.size) wr.heap.size) B w2 gx s m1 σ1 vt2 x2 p) : BkP S B w gx s m σ vt x (endOf y v) w2 := by
 subst hq hqy
 exact ⟨(stepM m1 s σ1).2.why, m1, σ1, vt2, x2, p, h.st _ _ _ (Goes.stop ho hy), by rw [endOf_bad hy, endOf_bad hy], hl1.trans hl2, kp_chain hk1 hf1 hk2, fr_chain hk1 hf1 hf2, hr.mono (SN.low hk1.size), fun e => absurd e hy⟩
/-- The end. -/
theorem LpR.done (h : LpR S B w wr gx s m σ vt x f m1 σ1) (ho : m1.over) : BkP S B w gx s m σ vt x (.returned (.tuple #[])) wr := by
 obtain ⟨vt1, x1, hl, hk, hf, hr⟩ := h.run
 exact ⟨0, m1, σ1, vt1, x1, σ1.pos, h.st _ _ _ (Goes.done ho), by rw [endOf_ok rfl], hl, hk, hf, hr, fun _ => rfl⟩
theorem LpR.mono (h : LpR S B w wr gx s m σ vt x f m1 σ1) {f' : Nat} (hf : restN s σ1 ≤ f') : LpR S B w wr gx s m σ vt x f' m1 σ1 := ⟨h.st, h.fit, h.why, hf, h.run⟩
end
theorem there_used (z : Nat → Int) (n : Nat) : ∀ k, (∀ i, i < k → 0 ≤ z i) → (thereN (codeT z n) k = 0 ↔ usedN z k = 0)
 | 0, _ => ⟨fun _ => rfl, fun _ => rfl⟩
 |
  k + 1, h => by
  have ih := there_used z n k (fun i hi => h i (by omega))
  have hk := h k (by omega)
  simp only [thereN, usedN]
  by_cases h0 : z k = 0
  ·
   rw [codeT_none h0, if_neg (by omega)]
   have : (ByteArray.empty).size = 0 := rfl
   omega
  ·
   rw [codeT_one (by omega), bitsB_size, if_pos (by omega)]
   omega
theorem there_pas {z : Nat → Int} {n : Nat} (h : ∀ i, i < n → 0 ≤ z i ∧ z i ≤ 15) : thereN (codeT z n) n = 0 ↔ pas (cntN z n) 15 = 0 := by
 rw [there_used z n n (fun i hi => (h i hi).1), used_pas z n h]
theorem stepF_end {s : ByteArray} {c : Nat → ByteArray} {n there : Nat} (σ : St) : stepF s c n there (256, σ) = (true, σ) := by
 unfold stepF; rw [if_pos (Or.inr rfl)]
theorem stepF_dead {s : ByteArray} {c : Nat → ByteArray} {n there : Nat} {k : Int × St} (h : k.2.why ≠ 0) : stepF s c n there k = (true, k.2) := by
 unfold stepF; rw [if_pos (Or.inl h)]
theorem stepF_put {s : ByteArray} {c : Nat → ByteArray} {n there k : Nat} {σ : St} (h : σ.why = 0) (hk : k < 256) : stepF s c n there ((k : Int), σ) = (false, putF σ (UInt8.ofNat k)) := by
 unfold stepF
 rw [if_neg (by show ¬ (σ.why ≠ 0 ∨ (k : Int) = 256); omega), if_pos (by show (k : Int) < 256; omega)]
 rfl
theorem stepF_again {s : ByteArray} {z : Nat → Int} {n k : Nat} {σ : St} (hz : ∀ i, i < n → 0 ≤ z i ∧ z i ≤ 15) (h : σ.why = 0) (hk : 256 < k) : stepF s (codeT z n) n (thereN (codeT z n) n) ((k : Int), σ) = (false, againF s z n k σ) := by
 have ht := there_pas hz
 unfold stepF
 rw [if_neg (by show ¬ (σ.why ≠ 0 ∨ (k : Int) = 256); omega), if_neg (by show ¬ (k : Int) < 256; omega)]
 by_cases hb : 285 < k ∨ pas (cntN z n) 15 = 0
 · rw [if_pos (by show (285 : Int) < (k : Int) ∨ _; rw [ht]; omega), againF_bad hb, stopF_alive h]
 ·
  rw [if_neg (by show ¬ ((285 : Int) < (k : Int) ∨ _); rw [ht]; omega)]
  unfold againF
  rw [if_neg hb]
  rfl
theorem againF_fail {s : ByteArray} {z : Nat → Int} {n y : Nat} {σ : St} (h : (againF s z n y σ).why ≠ 0) : (againF s z n y σ).text = σ.text := by
 unfold againF at h ⊢
 by_cases hb : 285 < y ∨ pas (cntN z n) 15 = 0
 · rw [if_pos hb]
 · rw [if_neg hb] at h ⊢; exact pairF_fail h
theorem wpList_load_set {P : Program} {ops : Array Oper} {rest : List Oper} {op : Oper} {a : Act} {w : World} {Q : Exit → Act → World → Prop} (hgd : op.guard = none) (ty : TypeId) (x : Operand) (ho : op.op = .load ty x)
 (b o : Nat) (hx : a.eval x = .pointer (some ⟨b, o, none⟩)) (A : Array Value) (d : TypeDesc) (hc : w.rangeAt b o A.toList)
 (hu : P.underlying ty = some d) (hd : d.isRow = true) (hi : (P.info? ty).map (·.size) = some A.size)
 (h : wpList P ops Q rest (a.put op.dst (.agg A)) w) : wpList P ops Q (op :: rest) a w :=
 wpList_load_mid hgd ty x ho b o hx A.toList d hc hu hd (by rw [Array.length_toList]; exact hi) (by rw [Array.toArray_toList]; exact h)
/- The program's blocks, walked. -/
set_option maxRecDepth 4000 in
set_option maxHeartbeats 4000000 in
theorem blocks_any (S : Nat → Prop) (B gx : Nat) (s : ByteArray) (m : Md) (σ : St) (vt : Value) (x : Ex) (w : World) (h : RdA S B w gx s m σ vt x σ.pos) (hB : B ≤ w.heap.size) (hs : s.size ≤ 140737488400000) (hf : Fit s σ) (hy : σ.why = 0) (hgo : 1 < B) (hord : OrdIn w 1) :
 Calls Tryz.prog 107 #[.pointer (some ⟨gx, 0, none⟩)] w (BkP S B w gx s m σ vt x) := by
 have hgB := h.rd.le
 have hvn : ∀ g, vt.ownBlock = some g → B ≤ g := fun g e => (h.rd.own.lt g e).1
 have v0 : vt.ownBlock ≠ some 1 := fun e => by have := hvn _ e; omega
 have ox : 1 ≠ gx := by omega
 have R0 : LpR S B w w gx s m σ vt x (8 * s.size + 1) m σ := ⟨Steps.refl _ _ _, hf, hy, restN_le s σ, vt, x, Ex.like.refl x, Kp.refl _ _ _, fun _ hg => Or.inl hg, h.mono (fun _ h => Or.inl h)⟩
 clear h hf hy
 go_enter Tryz.func107, Tryz.ntmps107
 go_wp2_with fail
 go_step3
 go_wp2_with fail
 go_step3
 go_wp2_with fail
 go_loopg [2] (8 * s.size + 1) (fun f _ wr => ∃ m1 σ1, LpR S B w wr gx s m σ vt x f m1 σ1)
 case atStart => exact ⟨m, σ, R0⟩
 case round =>
  obtain ⟨m1, σ1, hrel⟩ := hrel
  clear R0
  obtain ⟨fo, hfo⟩ : ∃ fo, fo = gk := ⟨_, rfl⟩
  have HFO : Hid (fo = gk) := hfo
  rw [← hfo] at hrel
  clear hfo
  have R1 : LpR S B w wr gx s m σ vt x (8 * s.size + 1) m1 σ1 ∧ restN s σ1 ≤ fo := ⟨hrel.mono (restN_le s σ1), hrel.few⟩
  clear hrel
  go_wp2_with fail
  go_loopg [] (8 * s.size + 1) (fun f wr => ∃ m1 σ1, LpR S B w wr gx s m σ vt x f m1 σ1 ∧ restN s σ1 ≤ fo)
  case atStart => exact ⟨m1, σ1, R1⟩
  case round =>
   obtain ⟨m2, σ2, hL, hfo2⟩ := hrel
   clear R1
   obtain ⟨la, n, pp⟩ := m2
   obtain ⟨vt2, x2, hl2, hk2, hf2, hr2⟩ := hL.run
   have hyL := hL.why
   have hfit := hL.fit
   have hxb : x2.bare = n := hr2.bare
   have hn5 : n ≤ 65535 := hr2.few
   have hB2 : B ≤ wr.heap.size := Nat.le_trans hB hk2.size
   by_cases hn : 0 < n
   ·
    have ho : ¬ (⟨la, n, pp⟩ : Md).over := fun h => by have := h.2.1; simp only at this; omega
    have cb := hr2.rd.cb
    rw [hxb] at cb
    have HST : Hid (stepM ⟨la, n, pp⟩ s σ2 = (⟨la, n - 1, pp⟩, putF (numF s 8 σ2).2 (UInt8.ofNat (numF s 8 σ2).1))) := by show _ = _; rw [stepM_bare hn]; rfl
    have HNU : Hid (_) := gnumber_any B gx 8 s σ2 vt2 x2 wr hr2.at' hs hfit.pos hyL (by omega)
    have f3 := hfit.num 8
    have t3 := (qt_num 8).text s σ2
    have n3 := numF_ltK s 8 256 σ2 rfl
    generalize numF s 8 σ2 = q at HST HNU f3 t3 n3
    obtain ⟨c, σ3⟩ := q
    simp only at f3 t3 n3
    have hnI : (0 : Int) < (n : Int) := by omega
    go_wp2_with fail
    refine Calls.mono HNU.out ?_
    rintro e w3 ⟨he, h3, k3⟩
    have hB3 : B ≤ w3.heap.size := Nat.le_trans hB2 k3.size
    clear HNU
    by_cases hy3 : σ3.why = 0
    ·
     rw [endOf_ok hy3] at he; subst he
     have HC : Hid ((c : Int) = (((UInt8.ofNat c).toNat : Nat) : Int)) := by show _ = _; rw [UInt8.toNat_ofNat', Nat.mod_eq_of_lt (by omega)]
     have PP := gput_any B gx s σ3 vt2 x2 (UInt8.ofNat c) w3 h3 hB3 f3.text hy3
     rw [← HC.out] at PP
     have HP : Hid (_) := PP
     have ptf : (putF σ3 (UInt8.ofNat c)).why ≠ 0 → _ := fun h => putF_fail h
     clear PP
     try simp only at HST
     generalize putF σ3 (UInt8.ofNat c) = σ4 at HP HST ptf
     clear h3 cb
     go_wp2_with fail
     refine Calls.mono HP.out ?_
     rintro e w4 ⟨he, vt4, h4, k4, fr4⟩
     have K4 := k3.trans k4
     have F4 := fr_chain k3 (fun _ hg => Or.inl hg) fr4
     clear HP
     by_cases hy4 : σ4.why = 0
     ·
      rw [endOf_ok hy4] at he; subst he
      have cb4 := h4.cb
      rw [hxb] at cb4
      have fb4 := h4.fz 7
      have hI1 : (n : Int) - 1 = ((n - 1 : Nat) : Int) := by omega
      have h5 := h4.setBare (n - 1)
      clear h4 k3 k4
      go_wp2_with fail
      refine (keep_any B gx s σ4 vt4 _ _ h5).mono ?_
      rintro e w6 ⟨rfl, h6, k6⟩
      have k46 : Kp w4 w6 gx vt4 := ((Kp.refl w4 gx vt4).set 7 (.int .i64 (n - 1 : Nat))).trans k6
      have K6 := kp_chain K4 F4 k46
      have RA : RdA (SN S w.heap.size) B w6 gx s ⟨la, n - 1, pp⟩ σ4 vt4 { x2 with bare := n - 1, kp := σ4.pos } σ4.pos := ⟨h6, rfl, hr2.last, rfl, by show n - 1 ≤ 65535; omega, (hr2.plan.kp K4 F4).kp k46 (fun _ hg => Or.inl hg), (hr2.fix.kp K4 F4).kp k46 (fun _ hg => Or.inl hg)⟩
      obtain ⟨R, hg1⟩ := hL.go (x2 := { x2 with bare := n - 1, kp := σ4.pos }) ho HST.out hy4 hl2 hk2 hf2 ⟨rfl, rfl, rfl⟩ K6 F4 (RA.mono (fun _ h => Or.inl h))
      have hlt : restN s σ4 ≤ fo := by
       have e1 := stepM_rest (m := ⟨la, n, pp⟩) hfit hyL (by rw [HST.out]; exact hy4)
       rw [HST.out] at e1
       exact Nat.le_trans (Nat.le_of_lt e1) hfo2
      clear hL hr2 HST RA K6 k46 k6 h6 h5 K4 F4 fr4 cb4 fb4 hk2 hf2 hl2
      go_wp2
      go_roundg (gk - 1)
      case measure => omega
      case rel => exact ⟨_, _, R, hlt⟩
     ·
      have P : BkP S B w gx s m σ vt x (endOf σ4.why .nilFunc) w4 := hL.stop ho HST.out rfl hy4 hl2 hk2 hf2 (Ex.like.refl x2) K4 F4 ((hr2.fail K4 F4 h4 (by rw [ptf hy4, t3])).mono (fun _ h => Or.inl h))
      rw [endOf_bad hy4] at he P; subst he
      clear hL hr2 HST h4 K4 F4 k3 k4 fr4 hk2 hf2 hl2 ptf
      go_wp2
      exact ⟨rfl, P⟩
    ·
     have P : BkP S B w gx s m σ vt x (endOf σ3.why .nilFunc) w3 := hL.stop ho HST.out (by rw [putF_dead hy3]) hy3 hl2 hk2 hf2 (Ex.like.refl x2) k3 (fun _ hg => Or.inl hg) ((hr2.fail k3 (fun _ hg => Or.inl hg) h3 t3).mono (fun _ h => Or.inl h))
     rw [endOf_bad hy3] at he P; subst he
     clear hL hr2 HST h3 k3 hk2 hf2 hl2 cb
     go_wp2
     exact ⟨rfl, P⟩
   ·
    have hn0 : n = 0 := by omega
    subst hn0
    have cb := hr2.rd.cb
    rw [hxb] at cb
    have R1 : LpR S B w wr gx s m σ vt x (8 * s.size + 1) ⟨la, 0, pp⟩ σ2 ∧ restN s σ2 ≤ fo := ⟨hL.mono (restN_le s σ2), hfo2⟩
    clear hL hr2 hk2 hf2 hl2 hxb hn5 hB2 hn hyL hfit hfo2
    go_wp2_with fail
    clear cb
    go_loopg [2] (8 * s.size + 1) (fun f _ wr => ∃ pp σ1, LpR S B w wr gx s m σ vt x f ⟨la, 0, pp⟩ σ1 ∧ restN s σ1 ≤ fo)
    case atStart => exact ⟨pp, σ2, R1⟩
    case round =>
     obtain ⟨pq, σ3, hL, hfo3⟩ := hrel
     clear R1
     obtain ⟨vt3, x3, hl3, hk3, hf3, hr3⟩ := hL.run
     have hyL := hL.why
     have hfit := hL.fit
     have hB3 : B ≤ wr.heap.size := Nat.le_trans hB hk3.size
     cases pq with
     |
      none =>
      have cp : wr.cell? ⟨gx, 8, none⟩ = some (.pointer none) := by rw [hr3.rd.cp]; exact congrArg some hr3.plan
      have cl := hr3.rd.cl
      rw [show x3.last = la from hr3.last] at cl
      cases la with
      |
       true =>
       have P := hL.done ⟨rfl, rfl, rfl⟩
       clear hL hr3 hk3 hf3 hl3
       go_wp2
       first | go_end0 | (refine bodyPost_ret (results_none rfl _ _ _) rfl ?_)
       exact P
      |
       false =>
       have ho : ¬ (⟨false, 0, none⟩ : Md).over := fun h => by have := h.1; simp at this
       have HST : Hid (stepM ⟨false, 0, none⟩ s σ3 = headM s σ3) := by show _ = _; rw [stepM_head rfl rfl]
       have hv3 : vt3.ownBlock ≠ some 1 := fun e => by have := (hr3.rd.own.lt _ e).1; omega
       have HBG : Hid (_) := begin_any (SN S w.heap.size) B gx s ⟨false, 0, none⟩ σ3 vt3 x3 wr hr3 hs hfit hyL hgo (hord.kp hk3 ox v0) rfl rfl
       have hrst := stepM_rest (m := ⟨false, 0, none⟩) (s := s) (σ := σ3) hfit hyL
       rw [HST.out] at hrst
       generalize headM s σ3 = g at HST HBG hrst
       go_wp2_with fail
       refine Calls.mono HBG.out ?_
       rintro e w4 ⟨he, vt4, x4, p4, hl4, hk4, hf4, hcase⟩
       rcases hcase with ⟨hy4, rfl, hr4⟩ | ⟨hy4, hr4⟩
       ·
        rw [endOf_ok hy4] at he; subst he
        obtain ⟨R, hg1⟩ := hL.go ho HST.out hy4 hl3 hk3 hf3 hl4 hk4 hf4 hr4
        have R2 : LpR S B w w4 gx s m σ vt x (fo - 1) g.1 g.2 := R.mono (by have := hrst hy4; omega)
        have hfo1 : 1 ≤ fo := by have := hrst hy4; omega
        clear hL hr3 hr4 R HST HBG hk4 hf4 hl4 hk3 hf3 hl3
        go_wp2
        go_roundg (fo - 1)
        case measure => have := HFO.out; omega
        case rel => exact ⟨_, _, R2⟩
       ·
        have P : BkP S B w gx s m σ vt x (endOf g.2.why .nilFunc) w4 := hL.stop ho HST.out rfl hy4 hl3 hk3 hf3 hl4 hk4 hf4 hr4
        rw [endOf_bad hy4] at he P; subst he
        clear hL hr3 hr4 HST HBG hk4 hf4 hl4 hk3 hf3 hl3
        go_wp2
        exact ⟨rfl, P⟩
     |
      some p =>
      obtain ⟨gp, hgp, ⟨g1, sy1, g2, sy2, hpl, _⟩, hn1, hn2⟩ := hr3.plan
      have ho : ¬ (⟨la, 0, some p⟩ : Md).over := fun h => by have := h.2.2; simp at this
      have cp : wr.cell? ⟨gx, 8, none⟩ = some (.pointer (some ⟨gp, 0, none⟩)) := by rw [hr3.rd.cp]; exact congrArg some hgp
      obtain ⟨z1, N1, z2, N2⟩ := p
      simp only at hpl hn1 hn2
      have HST : Hid (stepM ⟨la, 0, some ⟨z1, N1, z2, N2⟩⟩ s σ3 = (if (stepF s (codeT z2 N2) N2 (thereN (codeT z2 N2) N2) (symF s (codeT z1 N1) N1 σ3)).1 = true then ⟨la, 0, none⟩ else ⟨la, 0, some ⟨z1, N1, z2, N2⟩⟩, (stepF s (codeT z2 N2) N2 (thereN (codeT z2 N2) N2) (symF s (codeT z1 N1) N1 σ3)).2)) := by show _ = _; rw [stepM_sym rfl rfl]; rfl
      have hi1 : (Tryz.prog.info? 185).map (·.size) = some (setL z1 N1 g1).size := Tryz.size185
      have hr1 := hpl.r1
      have HSY : Hid (_) := gsymbol_any B gx g1 N1 s σ3 vt3 x3 z1 sy1 wr hr3.at' hs hfit hyL hpl.s1 hpl.f1.nx hpl.f1.nv
      have hfst := symF_fst (codeT_size hpl.s1.tidy) σ3 (s := s)
      have f5 : Fit s (symF s (codeT z1 N1) N1 σ3).2 := hfit.symF
      have t5 := (qt_sym (codeT z1 N1) N1).text s σ3
      rw [setV_eq] at HSY
      generalize hA1 : setL z1 N1 g1 = A1 at hr1 hi1 HSY
      go_wp2_with (first | (refine wpList_load_set rfl 185 (.tmp 37) rfl gp 0 rfl A1 _ hr1 Tryz.underlying185 rfl hi1 ?_) | fail)
      refine Calls.mono HSY.out ?_
      rintro e w5 ⟨he, h5, k5⟩
      have fx5 := hr3.fix.kp k5 (fun _ hg => Or.inl hg)
      have pl5 := hpl.kp k5 (fun _ hg => Or.inl hg)
      have hB5 : B ≤ w5.heap.size := Nat.le_trans hB3 k5.size
      have hz2 := hpl.s2.tidy.rng
      generalize symF s (codeT z1 N1) N1 σ3 = q at he h5 hfst f5 HST t5
      obtain ⟨kk, σ5⟩ := q
      try simp only at he h5 hfst f5 t5
      clear HSY hr1 hi1 hA1 cp
      by_cases hy5 : σ5.why = 0
      ·
       rw [endOf_ok hy5] at he; subst he
       obtain ⟨y, hyn, rfl⟩ := hfst hy5
       clear hfst
       have hyb : y ≤ 1000 := by omega
       rcases (by omega : y < 256 ∨ y = 256 ∨ 256 < y) with hc | hc | hc
       ·
        have HS1 : Hid (_) := stepF_put (s := s) (c := codeT z2 N2) (n := N2) (there := thereN (codeT z2 N2) N2) hy5 hc
        rw [HS1.out] at HST
        have HC : Hid ((y : Int) = (((UInt8.ofNat y).toNat : Nat) : Int)) := by show _ = _; rw [UInt8.toNat_ofNat', Nat.mod_eq_of_lt (by omega)]
        have PP := gput_any B gx s σ5 vt3 x3 (UInt8.ofNat y) w5 h5 hB5 f5.text hy5
        rw [← HC.out] at PP
        have HP : Hid (_) := PP
        have ptf : (putF σ5 (UInt8.ofNat y)).why ≠ 0 → _ := fun h => putF_fail h
        clear PP HS1
        generalize putF σ5 (UInt8.ofNat y) = σ6 at HP HST ptf
        clear h5
        go_wp2_with fail
        refine Calls.mono HP.out ?_
        rintro e w6 ⟨he, vt6, h6, k6, fr6⟩
        have K6 := k5.trans k6
        have F6 := fr_chain k5 (fun _ hg => Or.inl hg) fr6
        clear HP
        by_cases hy6 : σ6.why = 0
        ·
         rw [endOf_ok hy6] at he; subst he
         go_wp2_with fail
         refine (keep_any B gx s σ6 vt6 _ _ h6).mono ?_
         rintro e w7 ⟨rfl, h7, k7⟩
         have K7 := kp_chain K6 F6 k7
         have RA : RdA (SN S w.heap.size) B w7 gx s ⟨la, 0, some ⟨z1, N1, z2, N2⟩⟩ σ6 vt6 { x3 with kp := σ6.pos } σ6.pos := ⟨h7, rfl, hr3.last, hr3.bare, hr3.few, (hr3.plan.kp K6 F6).kp k7 (fun _ hg => Or.inl hg), (hr3.fix.kp K6 F6).kp k7 (fun _ hg => Or.inl hg)⟩
         obtain ⟨R, hg1⟩ := hL.go (x2 := { x3 with kp := σ6.pos }) ho HST.out hy6 hl3 hk3 hf3 ⟨rfl, rfl, rfl⟩ K7 F6 (RA.mono (fun _ h => Or.inl h))
         have hlt : restN s σ6 ≤ fo := by
          have e1 := stepM_rest (m := ⟨la, 0, some ⟨z1, N1, z2, N2⟩⟩) hfit hyL (by rw [HST.out]; exact hy6)
          rw [HST.out] at e1
          exact Nat.le_trans (Nat.le_of_lt e1) hfo3
         clear hL hr3 HST RA K7 k7 h7 h6 K6 F6 fr6 k6 k5 hk3 hf3 hl3 hpl pl5 fx5
         go_wp2
         go_roundg (gk - 1)
         case measure => omega
         case rel => exact ⟨_, _, R, hlt⟩
        ·
         have P : BkP S B w gx s m σ vt x (endOf σ6.why .nilFunc) w6 := hL.stop ho HST.out rfl hy6 hl3 hk3 hf3 (Ex.like.refl x3) K6 F6 ((hr3.fail K6 F6 h6 (by rw [ptf hy6, t5])).mono (fun _ h => Or.inl h))
         rw [endOf_bad hy6] at he P; subst he
         clear hL hr3 HST h6 K6 F6 fr6 k6 k5 hk3 hf3 hl3 hpl pl5 fx5 ptf
         go_wp2
         exact ⟨rfl, P⟩
       ·
        subst hc
        have HS1 : Hid (_) := stepF_end (s := s) (c := codeT z2 N2) (n := N2) (there := thereN (codeT z2 N2) N2) σ5
        have HS2 : Hid (stepM ⟨la, 0, some ⟨z1, N1, z2, N2⟩⟩ s σ3 = (⟨la, 0, none⟩, σ5)) := by
         show _ = _
         have e := HST.out
         rw [show (((256 : Nat) : Int), σ5) = ((256 : Int), σ5) from rfl, HS1.out] at e
         exact e
        have cp5 := h5.cp
        have fp5 := h5.fz 8
        have h6 := h5.setPl (.pointer none)
        clear HST HS1
        go_wp2_with fail
        refine (keep_any B gx s σ5 vt3 _ _ h6).mono ?_
        rintro e w7 ⟨rfl, h7, k7⟩
        have k57 : Kp w5 w7 gx vt3 := ((Kp.refl w5 gx vt3).set 8 (.pointer none)).trans k7
        have RA : RdA (SN S w.heap.size) B w7 gx s ⟨la, 0, none⟩ σ5 vt3 { x3 with pl := .pointer none, kp := σ5.pos } σ5.pos := ⟨h7, rfl, hr3.last, hr3.bare, hr3.few, rfl, fx5.kp k57 (fun _ hg => Or.inl hg)⟩
        obtain ⟨R, hg1⟩ := hL.go (x2 := { x3 with pl := .pointer none, kp := σ5.pos }) ho HS2.out hy5 hl3 hk3 hf3 ⟨rfl, rfl, rfl⟩ (k5.trans k57) (fun _ hg => Or.inl hg) (RA.mono (fun _ h => Or.inl h))
        have hrl : restN s σ5 < restN s σ3 := by
         have e1 := stepM_rest (m := ⟨la, 0, some ⟨z1, N1, z2, N2⟩⟩) hfit hyL (by rw [HS2.out]; exact hy5)
         rw [HS2.out] at e1
         exact e1
        have R2 : LpR S B w w7 gx s m σ vt x (fo - 1) ⟨la, 0, none⟩ σ5 := R.mono (by show restN s σ5 ≤ _; omega)
        have hfo1 : 1 ≤ fo := by omega
        clear hL hr3 HS2 RA R k57 k7 h7 h6 h5 k5 hk3 hf3 hl3 hpl pl5 fx5 cp5 fp5
        go_wp2
        go_roundg (fo - 1)
        case measure => have := HFO.out; omega
        case rel => exact ⟨_, _, R2⟩
       ·
        have HS1 : Hid (_) := stepF_again (s := s) (z := z2) (n := N2) hz2 hy5 hc
        rw [HS1.out] at HST
        have hi2 : (Tryz.prog.info? 185).map (·.size) = some (setL z2 N2 g2).size := Tryz.size185
        have hr2' := pl5.r2
        have HP : Hid (_) := again_any B gx g2 N2 y s σ5 vt3 x3 z2 sy2 w5 h5 hs f5 hy5 pl5.s2 pl5.f2.nx pl5.f2.nv (by omega) hyb
        rw [setV_eq] at HP
        have ptf : (againF s z2 N2 y σ5).why ≠ 0 → _ := fun h => againF_fail h
        generalize hA2 : setL z2 N2 g2 = A2 at hr2' hi2 HP
        generalize againF s z2 N2 y σ5 = σ6 at HP HST ptf
        have cp5 : w5.cell? ⟨gx, 8, none⟩ = some (.pointer (some ⟨gp, 0, none⟩)) := by rw [h5.cp]; exact congrArg some hgp
        clear HS1 hA2 h5
        go_wp2_with (first | (refine wpList_load_set rfl 185 (.tmp 64) rfl gp 17 rfl A2 _ hr2' Tryz.underlying185 rfl hi2 ?_) | fail)
        refine Calls.mono HP.out ?_
        clear hr2' hi2 cp5
        rintro e w6 ⟨he, vt6, h6, k6, fr6⟩
        have K6 := k5.trans k6
        have F6 := fr_chain k5 (fun _ hg => Or.inl hg) fr6
        clear HP
        by_cases hy6 : σ6.why = 0
        ·
         rw [endOf_ok hy6] at he; subst he
         go_wp2_with fail
         refine (keep_any B gx s σ6 vt6 _ _ h6).mono ?_
         rintro e w7 ⟨rfl, h7, k7⟩
         have K7 := kp_chain K6 F6 k7
         have RA : RdA (SN S w.heap.size) B w7 gx s ⟨la, 0, some ⟨z1, N1, z2, N2⟩⟩ σ6 vt6 { x3 with kp := σ6.pos } σ6.pos := ⟨h7, rfl, hr3.last, hr3.bare, hr3.few, (hr3.plan.kp K6 F6).kp k7 (fun _ hg => Or.inl hg), (hr3.fix.kp K6 F6).kp k7 (fun _ hg => Or.inl hg)⟩
         obtain ⟨R, hg1⟩ := hL.go (x2 := { x3 with kp := σ6.pos }) ho HST.out hy6 hl3 hk3 hf3 ⟨rfl, rfl, rfl⟩ K7 F6 (RA.mono (fun _ h => Or.inl h))
         have hlt : restN s σ6 ≤ fo := by
          have e1 := stepM_rest (m := ⟨la, 0, some ⟨z1, N1, z2, N2⟩⟩) hfit hyL (by rw [HST.out]; exact hy6)
          rw [HST.out] at e1
          exact Nat.le_trans (Nat.le_of_lt e1) hfo3
         clear hL hr3 HST RA K7 k7 h7 h6 K6 F6 fr6 k6 k5 hk3 hf3 hl3 hpl pl5 fx5
         go_wp2
         go_roundg (gk - 1)
         case measure => omega
         case rel => exact ⟨_, _, R, hlt⟩
        ·
         have P : BkP S B w gx s m σ vt x (endOf σ6.why .nilFunc) w6 := hL.stop ho HST.out rfl hy6 hl3 hk3 hf3 (Ex.like.refl x3) K6 F6 ((hr3.fail K6 F6 h6 (by rw [ptf hy6, t5])).mono (fun _ h => Or.inl h))
         rw [endOf_bad hy6] at he P; subst he
         clear hL hr3 HST h6 K6 F6 fr6 k6 k5 hk3 hf3 hl3 hpl pl5 fx5 ptf
         go_wp2
         exact ⟨rfl, P⟩
      ·
       have HS1 : Hid (_) := stepF_dead (s := s) (c := codeT z2 N2) (n := N2) (there := thereN (codeT z2 N2) N2) (k := (kk, σ5)) hy5
       rw [HS1.out] at HST
       have P : BkP S B w gx s m σ vt x (endOf σ5.why .nilFunc) w5 := hL.stop ho HST.out rfl hy5 hl3 hk3 hf3 (Ex.like.refl x3) k5 (fun _ hg => Or.inl hg) ((hr3.fail k5 (fun _ hg => Or.inl hg) h5 t5).mono (fun _ h => Or.inl h))
       rw [endOf_bad hy5] at he P; subst he
       clear hL hr3 HST HS1 h5 k5 hk3 hf3 hl3 hpl pl5 fx5 hfst
       go_wp2
       exact ⟨rfl, P⟩
/- The program's run: what gives up is caught here. -/
theorem catch_idle (p : Addr) (w : World) :
 CallsD Tryz.prog 106 #[.pointer (some p)] .returning w fun e u' w' => e = .returned (.tuple #[]) ∧ u' = .returning ∧ w' = w := by
 have hnil : ∀ w : World, (binOp BinOp.eql 20 .nilIface .nilIface).run Tryz.prog w = .ok (.bool true) w := fun _ => by kernel_rfl
 refine callsD_of_wpS Tryz.func106 rfl fun c₀ cs hu => ?_
 apply wpS_seq
 apply wpS_region
 simp [wpOpsS, go_sem, recoverD, hu, Tryz.ntmps106, Exit.thenS]
 refine wpS_of_wp ?_
 go_wp2
 cases c₀
 simp_all [bodyPostS, results, Tryz.results106]
theorem catch_panicking (p : Addr) (y x : Int) (w : World) (hc : w.cell? p = some (.int .i64 x)) (hz : w.frozen? p = false) (hp : p.block < w.heap.size) :
 CallsD Tryz.prog 106 #[.pointer (some p)] (.panicking [{ v := .iface 168 (.agg #[.int .i64 y]), recovered := false }]) w fun e u' w' =>
  e = .returned (.tuple #[]) ∧ u' = .panicking [{ v := .iface 168 (.agg #[.int .i64 y]), recovered := true }] ∧ w' = (w.alloc (.cells #[.int .i64 y] 168)).setCell p (.int .i64 y) := by
 have hz2 : (w.alloc (.cells #[.int .i64 y] 168)).frozen? p = false := by exact (World.frozen?_alloc_old (h := Nat.ne_of_lt hp) ..).trans hz
 have hnil : ∀ w : World, (binOp BinOp.eql 20 (.iface 168 (.agg #[.int .i64 y])) .nilIface).run Tryz.prog w = .ok (.bool false) w := fun _ => by kernel_rfl
 have hta : ∀ w : World, (Instr.typeAssert (.iface 168 (.agg #[.int .i64 y])) 20 168 true).run Tryz.prog w = .ok (.tuple #[.agg #[.int .i64 y], .bool true]) w := fun _ => by kernel_rfl
 refine callsD_of_wpS Tryz.func106 rfl fun c₀ cs hu => ?_
 apply wpS_seq
 apply wpS_region
 simp [wpOpsS, go_sem, recoverD, hu, Tryz.ntmps106, Exit.thenS]
 refine wpS_of_wp ?_
 have ht : (#[Value.pointer (some p)] ++ (Array.replicate 11 undef).setIfInBounds 3 (Value.iface 168 (Value.agg #[Value.int IntKind.i64 y])) : Array Value) = #[.pointer (some p), undef, undef, undef, .iface 168 (.agg #[.int .i64 y]), undef, undef, undef, undef, undef, undef, undef] := rfl
 rw [ht]
 clear ht
 go_wp2
 cases c₀
 simp_all [bodyPostS, results, Tryz.results106]
theorem ownsRow_frame {B : Nat} {w w' : World} {e : TypeId} {z n : Nat} {vt : Value} {l : List Value} (h : w.ownsRow B e z vt n l) (hb : ∀ b, vt.ownBlock = some b → w'.heap[b]? = w.heap[b]?) : w'.ownsRow B e z vt n l := by
 obtain ⟨h1, h2⟩ := h
 refine ⟨h1, ?_⟩
 rcases h2 with h2 | ⟨g, cap, cur, hv, hg, hh, r⟩
 · exact Or.inl h2
 · exact Or.inr ⟨g, cap, cur, hv, hg, (hb g (by rw [hv]; rfl)).trans hh, r⟩
/-- The reader stands as it stood where none of its blocks turned. -/
theorem RdA.frame {S : Nat → Prop} {B : Nat} {w w' : World} {gx : Nat} {s : ByteArray} {m : Md} {σ : St} {vt : Value} {x : Ex} {p : Nat} (h : RdA S B w gx s m σ vt x p) (hz : w.heap.size ≤ w'.heap.size) (hb : ∀ b, b < w.heap.size → b = gx ∨ vt.ownBlock = some b ∨ S b → w'.heap[b]? = w.heap[b]?) : RdA S B w' gx s m σ vt x p := by
 have hpl : ∀ gp z1 n1 z2 n2, PlanOk S w gx vt gp z1 n1 z2 n2 → PlanOk S w' gx vt gp z1 n1 z2 n2 := by
  rintro gp z1 n1 z2 n2 ⟨g1, sy1, g2, sy2, q, S0, S1, S2⟩
  have e0 := hb gp q.fp.lt (Or.inr (Or.inr S0))
  have e1 := hb g1 q.f1.lt (Or.inr (Or.inr S1))
  have e2 := hb g2 q.f2.lt (Or.inr (Or.inr S2))
  exact ⟨g1, sy1, g2, sy2, ⟨rangeAt_block q.r1 e0, rangeAt_block q.r2 e0, ⟨q.s1.tidy, q.s1.many, q.s1.row.of_block e1, q.s1.ok⟩, ⟨q.s2.tidy, q.s2.many, q.s2.row.of_block e2, q.s2.ok⟩, ⟨Nat.lt_of_lt_of_le q.fp.lt hz, q.fp.nx, q.fp.nv⟩, ⟨Nat.lt_of_lt_of_le q.f1.lt hz, q.f1.nx, q.f1.nv⟩, ⟨Nat.lt_of_lt_of_le q.f2.lt hz, q.f2.nx, q.f2.nv⟩⟩, S0, S1, S2⟩
 refine ⟨⟨h.rd.le, h.rd.big, h.rd.row.of_block (hb gx h.rd.row.lt (Or.inl rfl)), ownsRow_frame h.rd.own (fun b e => hb b (h.rd.own.lt b e).2 (Or.inr (Or.inl e))), h.rd.ne⟩, h.kept, h.last, h.bare, h.few, ?_, ?_⟩
 ·
  have q := h.plan
  cases hm : m.plan with
  | none => rw [hm] at q; exact q
  |
   some o =>
   rw [hm] at q
   obtain ⟨gp, h1, h2, h3⟩ := q
   exact ⟨gp, h1, hpl _ _ _ _ _ h2, h3⟩
 ·
  rcases h.fix with h1 | ⟨gp, h1, h2⟩
  · exact Or.inl h1
  · exact Or.inr ⟨gp, h1, hpl _ _ _ _ _ h2⟩
/-- What run answers. -/
def GrunP (S : Nat → Prop) (B : Nat) (w : World) (gx : Nat) (s : ByteArray) (m : Md) (σ : St) (vt : Value) (x : Ex) (e : Ending) (w' : World) : Prop :=
 ∃ y m' σ' vt' x' p, Goes s m σ y m' σ' ∧ e = .returned (.int .i64 (y : Nat)) ∧ x.like x' ∧ Kp w w' gx vt ∧ (∀ g, vt'.ownBlock = some g → vt.ownBlock = some g ∨ w.heap.size ≤ g) ∧ RdA (SN S w.heap.size) B w' gx s m' σ' vt' x' p ∧ (y = 0 → p = σ'.pos)
theorem grun_any (S : Nat → Prop) (B gx : Nat) (s : ByteArray) (m : Md) (σ : St) (vt : Value) (x : Ex) (w : World) (h : RdA S B w gx s m σ vt x σ.pos) (hB : B ≤ w.heap.size) (hs : s.size ≤ 140737488400000) (hf : Fit s σ) (hy : σ.why = 0) (hgo : 1 < B) (hord : OrdIn w 1) (hS : ∀ b, S b → b < w.heap.size) :
 Calls Tryz.prog 81 #[.pointer (some ⟨gx, 0, none⟩)] w (GrunP S B w gx s m σ vt x) := by
 have hmf : ∀ (fn : Fn) (first cap : Array Value) (w : World), (Instr.makeFunc fn first cap).run Tryz.prog w = .ok (.func fn first cap) w := fun _ _ _ _ => rfl
 have hx : gx < w.heap.size := h.rd.row.lt
 have hv0 : vt.ownBlock ≠ some 1 := fun e => by have := (h.rd.own.lt _ e).1; omega
 have hvl : ∀ g, vt.ownBlock = some g → g < w.heap.size := fun g e => (h.rd.own.lt g e).2
 have h1 : RdA S B (w.alloc (.cells #[.int .i64 0] 43)) gx s m σ vt x σ.pos := h.frame (by simp) (fun b hb _ => Below.heap_alloc w _ b hb)
 have hord1 := hord.kp (Kp.alloc w (.cells #[.int .i64 0] 43) gx vt) (by have := h.rd.le; omega) hv0
 have hz0 : (w.alloc (.cells #[.int .i64 0] 43)).heap.size = w.heap.size + 1 := by simp
 go_enter_defers Tryz.func81, Tryz.ntmps81
 go_wp2_with fail
 refine (blocks_any S B gx s m σ vt x _ h1 (by simp; omega) hs hf hy hgo hord1).mono ?_
 rintro e w' ⟨y, m', σ', vt', x', p, hG, he, hl, k', f', h', hp⟩
 have hg0 : w'.heap[w.heap.size]? = some (.cells #[.int .i64 0] 43) := (k'.block w.heap.size (by simp) (Nat.ne_of_gt hx) (fun e => by have := hvl _ e; omega)).trans (heap_alloc_last w _)
 have hne : vt'.ownBlock ≠ some w.heap.size := fun e => by
  rcases f' _ e with e1 | e1
  · have := hvl _ e1; omega
  · omega
 have hc : w'.cell? ⟨w.heap.size, 0, none⟩ = some (.int .i64 0) := by simp [World.cell?, hg0]
 have hz : w'.frozen? ⟨w.heap.size, 0, none⟩ = false := by simp [World.frozen?, hg0]
 have hlt : w.heap.size < w'.heap.size := by have := k'.size; omega
 have hk : Kp w w' gx vt := (Kp.alloc w _ gx vt).trans k'
 have hf2 : ∀ g, vt'.ownBlock = some g → vt.ownBlock = some g ∨ w.heap.size ≤ g := fun g e => by
  rcases f' g e with e1 | e1
  · exact Or.inl e1
  · exact Or.inr (by omega)
 have hfar : ∀ b, b = gx ∨ vt'.ownBlock = some b ∨ SN S (w.heap.size + 1) b → b ≠ w.heap.size := fun b hb => by
  rcases hb with hb | hb | hb | hb
  · omega
  · intro e; rw [e] at hb; exact hne hb
  · have := hS b hb; omega
  · omega
 rw [hz0] at h'
 have hmono : ∀ b, SN S (w.heap.size + 1) b → SN S w.heap.size b := fun b hb => by
  rcases hb with hb | hb
  · exact Or.inl hb
  · exact Or.inr (by omega)
 clear hg0 k' f' h1 hord1 hv0 hvl hz0
 by_cases hy2 : y = 0
 ·
  subst hy2
  have hp0 := hp rfl
  rw [endOf_ok rfl] at he
  subst he
  clear hp
  show _
  go_wp2
  refine leaves_cons (f := 106) (args := #[.pointer (some ⟨w.heap.size, 0, none⟩)]) (by simp) (by simp [go_sem]) ?_
  refine (catch_idle ⟨w.heap.size, 0, none⟩ _).mono ?_
  rintro e u' w'' ⟨rfl, rfl, rfl⟩
  have hr := (h'.frame (w' := w'.setCell ⟨w.heap.size, 0, none⟩ (.int .i64 0)) (by simp [World.setCell]) (fun b _ hb => Below.heap_setCell _ _ _ _ (hfar b hb))).mono hmono
  have hk2 := hk.setNew (Nat.le_refl _) 0 (.int .i64 0)
  have hc2 : (w'.setCell ⟨w.heap.size, 0, none⟩ (.int .i64 0)).cell? ⟨w.heap.size, 0, none⟩ = some (.int .i64 0) := World.cell?_setCell_same _ _ _ hc
  simp [Leaves, settle, results, Tryz.results81, go_sem, hc2]
  exact ⟨0, m', σ', vt', x', p, hG, rfl, hl, hk2, hf2, hr, fun _ => hp0⟩
 ·
  rw [endOf_bad hy2] at he
  subst he
  show bodyPostD _ _ _ _ _ _
  refine leaves_cons (f := 106) (args := #[.pointer (some ⟨w.heap.size, 0, none⟩)]) (by simp) (by simp [go_sem]) ?_
  refine (catch_panicking ⟨w.heap.size, 0, none⟩ (y : Nat) 0 _ hc hz hlt).mono ?_
  rintro e u' w'' ⟨rfl, rfl, rfl⟩
  have hr := (h'.frame (w' := (w'.alloc (.cells #[.int .i64 (y : Nat)] 168)).setCell ⟨w.heap.size, 0, none⟩ (.int .i64 (y : Nat))) (by simp [World.setCell]) (fun b hb1 hb => (Below.heap_setCell _ _ _ _ (hfar b hb)).trans (Below.heap_alloc w' _ b hb1))).mono hmono
  have hk2 := (hk.trans (Kp.alloc w' (.cells #[.int .i64 (y : Nat)] 168) gx vt)).setNew (Nat.le_refl _) 0 (.int .i64 (y : Nat))
  have hc2 : ((w'.alloc (.cells #[.int .i64 (y : Nat)] 168)).setCell ⟨w.heap.size, 0, none⟩ (.int .i64 (y : Nat))).cell? ⟨w.heap.size, 0, none⟩ = some (.int .i64 (y : Nat)) := World.cell?_setCell_same _ _ _ ((World.cell?_alloc_lt w' _ ⟨w.heap.size, 0, none⟩ hlt).trans hc)
  simp [Leaves, settle, results, Tryz.results81, go_sem, hc2]
  exact ⟨y, m', σ', vt', x', p, hG, rfl, hl, hk2, hf2, hr, hp⟩
/- The program's reader of a stream: back, and Feed. -/
/-- What stands behind the first k bytes. -/
def dropB (s : ByteArray) (k : Nat) : ByteArray := s.extract k s.size
section
variable {B : Nat} {w : World} {gx : Nat} {s : ByteArray} {σ : St} {vt : Value} {x : Ex}
theorem Rd.setFrom (h : Rd B w gx s σ vt x) (s' : ByteArray) : Rd B (w.setCell ⟨gx, 0, none⟩ (.string s')) gx s' σ vt x :=
 ⟨h.le, h.big, (h.row.set 0 _).congr (fun i _ => by
  show (if i = 0 then _ else rdCell s σ.pos vt x i) = rdCell s' σ.pos vt x i
  unfold rdCell
  by_cases e : i = 0
  · subst e; rfl
  · simp only [if_neg e]), own_setCell h.own h.ne _ _, h.ne⟩
theorem Rd.setBack (h : Rd B w gx s σ vt x) (l : Nat) (hl : l = x.kp % 8) : Rd B (((w.setCell ⟨gx, 3, none⟩ (.int .i64 0)).setCell ⟨gx, 1, none⟩ (.int .i64 0)).setCell ⟨gx, 2, none⟩ (.int .i64 (l : Nat))) gx s { σ with pos := l } vt { x with kp := l } := by
 subst hl
 have e1 : x.kp % 8 / 8 = 0 := by omega
 have e2 : x.kp % 8 % 8 = x.kp % 8 := by omega
 refine ⟨h.le, h.big, (((h.row.set 3 _).set 1 _).set 2 _).congr (fun i _ => ?_), own_setCell (σ := σ) (own_setCell (σ := σ) (own_setCell h.own h.ne _ _) h.ne _ _) h.ne _ _, h.ne⟩
 show (if i = 2 then _ else if i = 1 then _ else if i = 3 then _ else rdCell s σ.pos vt x i) = rdCell s (x.kp % 8) vt { x with kp := x.kp % 8 } i
 unfold rdCell
 simp only [e1, e2]
 by_cases i2 : i = 2
 · subst i2; rfl
 ·
  by_cases i1 : i = 1
  · subst i1; rfl
  ·
   by_cases i3 : i = 3
   · subst i3; rfl
   · simp only [if_neg i1, if_neg i2, if_neg i3]
end
theorem RdA.frames {S : Nat → Prop} {B : Nat} {w w' : World} {gx : Nat} {s s' : ByteArray} {m : Md} {σ σ' : St} {vt : Value} {x x' : Ex} {p p' : Nat} (h : RdA S B w gx s m σ vt x p) (k : Kp w w' gx vt) (hr : Rd B w' gx s' { σ' with pos := p' } vt x') (hk : x'.kp = σ'.pos) (hl : x'.last = x.last) (hb : x'.bare = x.bare) (hp : x'.pl = x.pl) (hf : x'.fx = x.fx) : RdA S B w' gx s' m σ' vt x' p' :=
 ⟨hr, hk, hl.trans h.last, hb.trans h.bare, h.few, by rw [hp]; exact h.plan.kp k (fun _ hg => Or.inl hg), by rw [hf]; exact h.fix.kp k (fun _ hg => Or.inl hg)⟩
set_option maxRecDepth 4000 in
set_option maxHeartbeats 1000000 in
theorem bback_any (S : Nat → Prop) (B gx : Nat) (s : ByteArray) (m : Md) (σ : St) (vt : Value) (x : Ex) (p : Nat) (w : World) (h : RdA S B w gx s m σ vt x p) (hs : s.size ≤ 140737488400000) (hf : σ.pos ≤ 8 * s.size) :
 Calls Tryz.prog 82 #[.pointer (some ⟨gx, 0, none⟩)] w fun e w' => e = .returned (.tuple #[]) ∧ RdA S B w' gx (dropB s (σ.pos / 8)) m { σ with pos := σ.pos % 8 } vt { x with kp := σ.pos % 8 } (σ.pos % 8) ∧ Kp w w' gx vt := by
 have c0 := h.rd.c0
 have k1 := h.rd.ck1
 rw [h.kept] at k1
 have hgl := h.rd.row.lt
 have hab : σ.pos / 8 ≤ s.size := by omega
 have hsz : (s.extract (σ.pos / 8) s.size).size ≤ 140737488400000 := by rw [ByteArray.size_extract]; omega
 have HD : Hid (dropB s (σ.pos / 8) = s.extract (σ.pos / 8) s.size) := rfl
 have HK : Hid (x.kp = σ.pos) := h.kept
 have HL : Hid (σ.pos % 8 = x.kp % 8) := by show _ = _; rw [h.kept]
 generalize dropB s (σ.pos / 8) = s' at HD ⊢
 generalize σ.pos % 8 = l at HL ⊢
 generalize σ.pos / 8 = a at k1 hab HD hsz
 go_enter Tryz.func82, Tryz.ntmps82
 go_wp2_with fail
 go_region_with (go_at_call 108; refine (sclone_any (s.extract a s.size) _ hsz).mono ?_; rintro e w1 ⟨rfl, hb⟩; have h1 : RdA S B w1 gx s m σ vt x p := h.frame hb.size (fun b hl _ => hb.block b hl); have d0 := h1.rd.c0; have z0 := h1.rd.fz 0)
 all_goals
  have HH1 : Hid (_) := h1
  have HHB : Hid (_) := hb
  rw [← HD.out]
  have R2 := (h1.rd.setFrom s').setBack l HL.out
  have g1 := (h1.rd.setFrom s').c1
  have g2 := (h1.rd.setFrom s').c2
  have g3 := (h1.rd.setFrom s').ck1
  have g4 := (h1.rd.setFrom s').ck2
  have z1 := (h1.rd.setFrom s').fz 1
  have z2 := (h1.rd.setFrom s').fz 2
  have z3 := (h1.rd.setFrom s').fz 3
  rw [← HL.out] at g4
  have hkp : Kp w w1 gx vt := ⟨hb.os, hb.tape, hb.output, hb.size, fun b hl _ _ => hb.block b hl⟩
  have K2 : Kp w1 ((((w1.setCell ⟨gx, 0, none⟩ (.string s')).setCell ⟨gx, 3, none⟩ (.int .i64 0)).setCell ⟨gx, 1, none⟩ (.int .i64 0)).setCell ⟨gx, 2, none⟩ (.int .i64 (l : Nat))) gx vt := ((((Kp.refl w1 gx vt).set 0 _).set 3 _).set 1 _).set 2 _
  have P : RdA S B _ gx s' m { σ with pos := l } vt { x with kp := l } l := h1.frames K2 R2 rfl rfl rfl rfl rfl
  have K3 := hkp.trans K2
  clear R2 K2 hkp h1 h hb d0 z0 HH1 HHB c0 k1 hsz HK HL hf
  generalize w1.setCell ⟨gx, 0, none⟩ (.string s') = w2 at g1 g2 g3 g4 z1 z2 z3 P K3 ⊢
  go_wp2
  go_end0
  exact ⟨rfl, P, K3⟩
/-- What the conversion of a part of the text gives. -/
theorem conv_from {B : Nat} {w : World} {g n cap k : Nat} {l : List UInt8} (ho : w.ownsRow B 5 1 (.slice (some ⟨g, 0, none⟩) n cap) n (byteVals l)) (hn : n = l.length) (hk : k ≤ n) :
 (convert 80 9 (.slice (some ⟨g, k, none⟩) (n - k) (cap - k))).run Tryz.prog w = .ok (.string ⟨(l.drop k).toArray⟩) w := by
 have e : (l.drop k).length = n - k := by rw [List.length_drop, hn]
 rw [← e]
 refine run_convert_bytes_back (P := Tryz.prog) w 80 9 5 ⟨g, k, none⟩ (cap - k) (l.drop k) Tryz.underlying80 Tryz.underlying5 Tryz.underlying9 (fun j hj => ?_)
 have hj2 : k + j < l.length := by rw [e] at hj; omega
 have c := ho.cells (g := g) rfl (k + j) _ (byteVals_get l (k + j) hj2)
 have e2 : l.getD (k + j) 0 = (l.drop k)[j] := by
  rw [List.getD_eq_getElem?_getD, List.getElem?_eq_getElem hj2, List.getElem_drop]; rfl
 rw [e2, addr_add0] at c
 rw [Addr.add_mid]
 exact c
/-- What Feed answers. -/
def feedAns (old : Nat) (s : ByteArray) (y : Nat) (σ' : St) : Value :=
 .tuple #[.string ⟨(σ'.text.drop old).toArray⟩, .int .i64 (if y = 0 then s.size - (σ'.pos + 7) / 8 else 0 : Nat), .int .i64 (y : Nat)]
/-- The reader behind a stream's end. -/
def exEnd (x : Ex) : Ex := { x with kp := 0, last := true, bare := 0, pl := .pointer none, fx := .pointer none }
theorem rdCell_far {s : ByteArray} {p : Nat} {vt : Value} {x : Ex} {i : Nat} (h : 10 ≤ i) : rdCell s p vt x i = x.more i := by
 unfold rdCell
 rw [if_neg (by omega), if_neg (by omega), if_neg (by omega), if_neg (by omega), if_neg (by omega), if_neg (by omega), if_neg (by omega), if_neg (by omega), if_neg (by omega), if_neg (by omega)]
def endCells : List Value := [.string .empty, .int .i64 0, .int .i64 0, .int .i64 0, .int .i64 0, .slice none 0 0, .bool true, .int .i64 0, .pointer none, .pointer none]
theorem Rd.reset {B : Nat} {w : World} {gx : Nat} {s : ByteArray} {σ : St} {vt : Value} {x : Ex} (h : Rd B w gx s σ vt x) : Rd B (w.setCells gx 0 endCells) gx .empty ⟨0, [], 0, false⟩ (.slice none 0 0) (exEnd x) := by
 refine ⟨h.le, h.big, ((((((((((h.row.set 0 (.string .empty)).set 1 (.int .i64 0)).set 2 (.int .i64 0)).set 3 (.int .i64 0)).set 4 (.int .i64 0)).set 5 (.slice none 0 0)).set 6 (.bool true)).set 7 (.int .i64 0)).set 8 (.pointer none)).set 9 (.pointer none)).congr (fun i _ => ?_), World.ownsRow_nil _ _ _ _, by simp [Value.ownBlock]⟩
 rcases (by omega : i = 0 ∨ i = 1 ∨ i = 2 ∨ i = 3 ∨ i = 4 ∨ i = 5 ∨ i = 6 ∨ i = 7 ∨ i = 8 ∨ i = 9 ∨ 10 ≤ i) with e | e | e | e | e | e | e | e | e | e | e
 · subst e; rfl
 · subst e; rfl
 · subst e; rfl
 · subst e; simp [rdCell, exEnd]
 · subst e; simp [rdCell, exEnd]
 · subst e; rfl
 · subst e; rfl
 · subst e; rfl
 · subst e; rfl
 · subst e; rfl
 ·
  show (if i = 9 then _ else if i = 8 then _ else if i = 7 then _ else if i = 6 then _ else if i = 5 then _ else if i = 4 then _ else if i = 3 then _ else if i = 2 then _ else if i = 1 then _ else if i = 0 then _ else rdCell s σ.pos vt x i) = _
  rw [if_neg (by omega), if_neg (by omega), if_neg (by omega), if_neg (by omega), if_neg (by omega), if_neg (by omega), if_neg (by omega), if_neg (by omega), if_neg (by omega), if_neg (by omega), rdCell_far e, rdCell_far e]
  rfl
/-- What Feed leaves. -/
def FeedP (S : Nat → Prop) (B : Nat) (w : World) (gx : Nat) (s : ByteArray) (m : Md) (σ : St) (vt : Value) (x : Ex) (e : Ending) (w' : World) : Prop :=
 ∃ y m' σ' vt' x', Goes s m σ y m' σ' ∧ e = .returned (feedAns σ.text.length s y σ') ∧ x.like x' ∧ Kp w w' gx vt ∧ (∀ g, vt'.ownBlock = some g → vt.ownBlock = some g ∨ w.heap.size ≤ g) ∧
  ((y ≠ 0 ∧ RdA (SN S w.heap.size) B w' gx (dropB s (σ'.pos / 8)) m' { σ' with pos := σ'.pos % 8 } vt' x' (σ'.pos % 8)) ∨ (y = 0 ∧ RdA (SN S w.heap.size) B w' gx .empty ⟨true, 0, none⟩ ⟨0, [], 0, false⟩ vt' x' 0))
set_option maxRecDepth 4000 in
set_option maxHeartbeats 2000000 in
theorem gfeed_any (S : Nat → Prop) (B gx : Nat) (s T : ByteArray) (m : Md) (σ : St) (vt : Value) (x : Ex) (w : World) (h : RdA S B w gx s m σ vt x σ.pos) (hB : B ≤ w.heap.size) (hs : s.size + T.size ≤ 140737488400000) (hf : Fit s σ) (hy : σ.why = 0) (hgo : 1 < B) (hord : OrdIn w 1) (hS : ∀ b, S b → b < w.heap.size) :
 Calls Tryz.prog 61 #[.pointer (some ⟨gx, 0, none⟩), .string T] w (FeedP S B w gx (s ++ T) m σ vt x) := by
 obtain ⟨ao, cap, hvt⟩ := rd_text h.rd
 have c0 := h.rd.c0
 have f0 := h.rd.fz 0
 have h1 : RdA S B (w.setCell ⟨gx, 0, none⟩ (.string (s ++ T))) gx (s ++ T) m σ vt x σ.pos := h.frames ((Kp.refl w gx vt).set 0 _) (h.rd.setFrom (s ++ T)) h.kept rfl rfl rfl rfl
 have k1 : Kp w (w.setCell ⟨gx, 0, none⟩ (.string (s ++ T))) gx vt := (Kp.refl w gx vt).set 0 _
 have hz1 : (w.setCell ⟨gx, 0, none⟩ (.string (s ++ T))).heap.size = w.heap.size := by simp [World.setCell]
 have hsz : (s ++ T).size = s.size + T.size := ByteArray.size_append
 have hv0 : vt.ownBlock ≠ some 1 := fun e => by have := (h.rd.own.lt _ e).1; omega
 have hox : 1 ≠ gx := by have := h.rd.le; omega
 have hfit : Fit (s ++ T) σ := ⟨by have := hf.pos; rw [hsz]; omega, hf.text⟩
 have HR : Hid (_) := grun_any S B gx (s ++ T) m σ vt x _ h1 (by rw [hz1]; exact hB) (by omega) hfit hy hgo (hord.kp k1 hox hv0) (by rw [hz1]; exact hS)
 have c5 := h1.rd.c3
 rw [hvt] at c5
 have htx := hf.text
 have hn0 : σ.text.length ≤ 5000 := hf.text
 have HV : Hid (vt = .slice ao σ.text.length cap) := hvt
 have HSZ : Hid ((s ++ T).size = s.size + T.size) := hsz
 have hsA : (s ++ T).size ≤ 140737488400000 := by omega
 clear hvt hsz h1 htx hv0 hox
 generalize hold : σ.text.length = old at c5 hn0
 have HO : Hid (σ.text.length = old) := hold
 clear hold
 go_enter Tryz.func61, Tryz.ntmps61
 go_wp2_with fail
 refine Calls.mono HR.out ?_
 rintro e w2 ⟨y, m', σ', vt', x', p, hG, rfl, hl, k2, f2, h2, hp⟩
 rw [hz1] at h2 f2
 have K2 := k1.trans k2
 have hfit' := hG.fit hfit
 have hgrow := hG.grow
 have hle : old ≤ σ'.text.length := by rw [← HO.out]; exact hgrow.length_le
 have ht5 := hfit'.text
 clear HR c0 f0 c5 hgrow
 have e5 := h2.rd.c3
 have hown := h2.rd.own
 obtain ⟨N, hN⟩ : ∃ N, N = σ'.text.length := ⟨_, rfl⟩
 have HN : Hid (N = σ'.text.length) := hN
 rw [← hN] at hle ht5
 have hown' : w2.ownsRow B 5 1 vt' N (byteVals σ'.text) := by rw [hN]; exact hown
 clear hN hown
 obtain ⟨A, hA⟩ : ∃ A, A = s ++ T := ⟨_, rfl⟩
 rw [← hA] at hG hsA hfit' h2 ⊢
 have HA : Hid (A = s ++ T) := hA
 clear hA HSZ k1 hz1 hfit hS hord h hf
 have hcase : (vt' = .slice none 0 0 ∧ N = 0) ∨ ∃ g cp, vt' = .slice (some ⟨g, 0, none⟩) N cp ∧ N ≤ cp := by
  obtain ⟨_, q⟩ := hown'
  rcases q with ⟨q1, q2⟩ | ⟨g, cp, cur, q1, _, _, q2, _⟩
  · exact Or.inl ⟨q1, q2⟩
  · exact Or.inr ⟨g, cp, q1, q2⟩
 by_cases hy0 : y = 0
 ·
  subst hy0
  have hp0 := hp rfl
  subst hp0
  have hyI : (((0 : Nat) : Int) != 0) = false := rfl
  have HWH : Hid (_) := whole_any B gx A σ' vt' x' w2 h2.rd (by have := hfit'.pos; omega)
  have hpz := hfit'.pos
  have HX : Hid (∀ w3, Kp w2 w3 gx vt' → Rd B w3 gx A (wholeF σ') vt' x' → FeedP S B w gx A m σ vt x (.returned (.tuple #[.string ⟨(σ'.text.drop old).toArray⟩, .int .i64 (A.size - (σ'.pos + 7) / 8 : Nat), .int .i64 0])) (w3.setCells gx 0 endCells)) := fun w3 k3 h3 => by
   refine ⟨0, m', σ', .slice none 0 0, exEnd x', hG, ?_, ⟨hl.ty, hl.n, hl.more⟩, (kp_chain K2 f2 k3).setX 0 endCells, fun g e => by simp [Value.ownBlock] at e, Or.inr ⟨rfl, ⟨h3.reset, rfl, rfl, rfl, by show 0 ≤ 65535; omega, rfl, Or.inl rfl⟩⟩⟩
   unfold feedAns
   rw [if_pos rfl, HO.out]
   rfl
  rcases hcase with ⟨hv', hN0⟩ | ⟨g, cp, hv', hNc⟩
  ·
   have HTX : Hid (σ'.text.drop old = []) := by
    show _ = _
    have : σ'.text = [] := List.eq_nil_of_length_eq_zero (by rw [← HN.out]; exact hN0)
    rw [this]; simp
   rw [HTX.out] at HX
   rw [hv'] at e5
   have ho0 : old = 0 := by omega
   subst ho0
   have cvn := Go.Lib.run_convert_nil_bytes (P := Tryz.prog) w2 80 9 5 0 Tryz.underlying80 Tryz.underlying5 Tryz.underlying9
   clear hown' hv'
   go_wp2_with fail
   refine Calls.mono HWH.out ?_
   rintro e w3 ⟨rfl, h3, k3⟩
   have P := fun nq => HX.out (w3.drewN nq) (k3.drewN nq) (h3.drewN nq)
   obtain ⟨q, hq⟩ : ∃ q, q = (σ'.pos + 7) / 8 := ⟨_, rfl⟩
   have d1 := h3.c1
   have HQ : (wholeF σ').pos / 8 = q := by rw [hq]; show 8 * ((σ'.pos + 7) / 8) / 8 = _; omega
   rw [HQ] at d1
   have d0 := h3.c0
   have d2 := h3.c2
   have d3 := h3.ck1
   have d4 := h3.ck2
   have d5 := h3.c3
   have d6 := h3.cl
   have d7 := h3.cb
   have d8 := h3.cp
   have d9 := h3.c4
   have z0 := h3.fz 0
   have z1 := h3.fz 1
   have z2 := h3.fz 2
   have z3 := h3.fz 3
   have z4 := h3.fz 4
   have z5 := h3.fz 5
   have z6 := h3.fz 6
   have z7 := h3.fz 7
   have z8 := h3.fz 8
   have z9 := h3.fz 9
   have hqA : q ≤ A.size := by omega
   have hqI : (A.size : Int) - (q : Int) = ((A.size - q : Nat) : Int) := by omega
   rw [← hq] at P
   clear HX HWH h2 e5 cvn HQ hq h3 k3
   go_wp2
   go_big_quiet (fail)
   go_wp2
   go_ret3
   rw [← HA.out]
   exact P _
  ·
   rw [hv'] at e5 hown'
   by_cases hce : cp = old
   ·
    have hNo : N - old = 0 := by omega
    have HTX : Hid (σ'.text.drop old = []) := by show _ = _; exact List.drop_of_length_le (by rw [← HN.out]; omega)
    have cv := run_convert_bytes_back (P := Tryz.prog) w2 80 9 5 ⟨g, 0, none⟩ 0 [] Tryz.underlying80 Tryz.underlying5 Tryz.underlying9 (fun j hj => by simp at hj)
    rw [HTX.out] at HX
    rw [hce] at e5
    have cv' : (convert 80 9 (.slice (some ⟨g, 0, none⟩) 0 0)).run Tryz.prog w2 = .ok (.string ⟨#[]⟩) w2 := cv
    clear hown' hv' cv hce hNc
    go_wp2_with fail
    refine Calls.mono HWH.out ?_
    rintro e w3 ⟨rfl, h3, k3⟩
    have P := fun nq => HX.out (w3.drewN nq) (k3.drewN nq) (h3.drewN nq)
    obtain ⟨q, hq⟩ : ∃ q, q = (σ'.pos + 7) / 8 := ⟨_, rfl⟩
    have d1 := h3.c1
    have HQ : (wholeF σ').pos / 8 = q := by rw [hq]; show 8 * ((σ'.pos + 7) / 8) / 8 = _; omega
    rw [HQ] at d1
    have d0 := h3.c0
    have d2 := h3.c2
    have d3 := h3.ck1
    have d4 := h3.ck2
    have d5 := h3.c3
    have d6 := h3.cl
    have d7 := h3.cb
    have d8 := h3.cp
    have d9 := h3.c4
    have z0 := h3.fz 0
    have z1 := h3.fz 1
    have z2 := h3.fz 2
    have z3 := h3.fz 3
    have z4 := h3.fz 4
    have z5 := h3.fz 5
    have z6 := h3.fz 6
    have z7 := h3.fz 7
    have z8 := h3.fz 8
    have z9 := h3.fz 9
    have hqA : q ≤ A.size := by omega
    have hqI : (A.size : Int) - (q : Int) = ((A.size - q : Nat) : Int) := by omega
    rw [← hq] at P
    clear HX HWH h2 e5 cv' HQ hq h3 k3
    go_wp2
    go_big_quiet (fail)
    go_wp2
    go_ret3
    rw [← HA.out]
    exact P _
   ·
    have hco : ¬ (old : Int) = (cp : Int) := by omega
    have cv := conv_from hown' HN.out hle
    clear hown' hv'
    go_wp2_with fail
    refine Calls.mono HWH.out ?_
    rintro e w3 ⟨rfl, h3, k3⟩
    have P := fun nq => HX.out (w3.drewN nq) (k3.drewN nq) (h3.drewN nq)
    obtain ⟨q, hq⟩ : ∃ q, q = (σ'.pos + 7) / 8 := ⟨_, rfl⟩
    have d1 := h3.c1
    have HQ : (wholeF σ').pos / 8 = q := by rw [hq]; show 8 * ((σ'.pos + 7) / 8) / 8 = _; omega
    rw [HQ] at d1
    have d0 := h3.c0
    have d2 := h3.c2
    have d3 := h3.ck1
    have d4 := h3.ck2
    have d5 := h3.c3
    have d6 := h3.cl
    have d7 := h3.cb
    have d8 := h3.cp
    have d9 := h3.c4
    have z0 := h3.fz 0
    have z1 := h3.fz 1
    have z2 := h3.fz 2
    have z3 := h3.fz 3
    have z4 := h3.fz 4
    have z5 := h3.fz 5
    have z6 := h3.fz 6
    have z7 := h3.fz 7
    have z8 := h3.fz 8
    have z9 := h3.fz 9
    have hqA : q ≤ A.size := by omega
    have hqI : (A.size : Int) - (q : Int) = ((A.size - q : Nat) : Int) := by omega
    rw [← hq] at P
    clear HX HWH h2 e5 cv HQ hq h3 k3
    go_wp2
    go_big_quiet (fail)
    go_wp2
    go_ret3
    rw [← HA.out]
    exact P _
 ·
  have hyI : ((y : Int) != 0) = true := by rw [bne_iff_ne]; omega
  have HBK : Hid (_) := fun w' hw => bback_any (SN S w.heap.size) B gx A m' σ' vt' x' p w' hw hsA hfit'.pos
  have HX : Hid (∀ w3, Kp w2 w3 gx vt' → RdA (SN S w.heap.size) B w3 gx (dropB A (σ'.pos / 8)) m' { σ' with pos := σ'.pos % 8 } vt' { x' with kp := σ'.pos % 8 } (σ'.pos % 8) → FeedP S B w gx A m σ vt x (.returned (.tuple #[.string ⟨(σ'.text.drop old).toArray⟩, .int .i64 0, .int .i64 (y : Nat)])) w3) := fun w3 k3 h3 => by
   refine ⟨y, m', σ', vt', { x' with kp := σ'.pos % 8 }, hG, ?_, ⟨hl.ty, hl.n, hl.more⟩, kp_chain K2 f2 k3, f2, Or.inl ⟨hy0, h3⟩⟩
   unfold feedAns
   rw [if_neg hy0, HO.out]
   rfl
  rcases hcase with ⟨hv', hN0⟩ | ⟨g, cp, hv', hNc⟩
  ·
   have HTX : Hid (σ'.text.drop old = []) := by
    show _ = _
    have : σ'.text = [] := List.eq_nil_of_length_eq_zero (by rw [← HN.out]; exact hN0)
    rw [this]; simp
   rw [HTX.out] at HX
   rw [hv'] at e5
   have ho0 : old = 0 := by omega
   subst ho0
   have cvn := Go.Lib.run_convert_nil_bytes (P := Tryz.prog) w2 80 9 5 0 Tryz.underlying80 Tryz.underlying5 Tryz.underlying9
   have cvd := Go.Lib.run_convert_nil_bytes (P := Tryz.prog) w2.drew 80 9 5 0 Tryz.underlying80 Tryz.underlying5 Tryz.underlying9
   clear hown' hv'
   go_wp2_with fail
   refine Calls.mono (HBK.out _ h2) ?_
   rintro e w3 ⟨rfl, h3, k3⟩
   have P := HX.out w3 k3 h3
   clear HX HBK h3 k3 h2 e5 cvn cvd
   rw [HA.out] at P
   go_wp2
   go_ret3
   exact P
  ·
   rw [hv'] at e5 hown'
   by_cases hce : cp = old
   ·
    have hNo : N - old = 0 := by omega
    have HTX : Hid (σ'.text.drop old = []) := by show _ = _; exact List.drop_of_length_le (by rw [← HN.out]; omega)
    have cv := run_convert_bytes_back (P := Tryz.prog) w2 80 9 5 ⟨g, 0, none⟩ 0 [] Tryz.underlying80 Tryz.underlying5 Tryz.underlying9 (fun j hj => by simp at hj)
    rw [HTX.out] at HX
    rw [hce] at e5
    have cv' : (convert 80 9 (.slice (some ⟨g, 0, none⟩) 0 0)).run Tryz.prog w2 = .ok (.string ⟨#[]⟩) w2 := cv
    clear hown' hv' cv hce hNc
    go_wp2_with fail
    refine Calls.mono (HBK.out _ h2) ?_
    rintro e w3 ⟨rfl, h3, k3⟩
    have P := HX.out w3 k3 h3
    clear HX HBK h3 k3 h2 e5 cv'
    rw [HA.out] at P
    go_wp2
    go_ret3
    exact P
   ·
    have hco : ¬ (old : Int) = (cp : Int) := by omega
    have cv := conv_from hown' HN.out hle
    clear hown' hv'
    go_wp2_with fail
    refine Calls.mono (HBK.out _ h2) ?_
    rintro e w3 ⟨rfl, h3, k3⟩
    have P := HX.out w3 k3 h3
    clear HX HBK h3 k3 h2 e5 cv
    rw [HA.out] at P
    go_wp2
    go_ret3
    exact P
end Go.Proofs.YtecddphahiadlaaGreatDoor
