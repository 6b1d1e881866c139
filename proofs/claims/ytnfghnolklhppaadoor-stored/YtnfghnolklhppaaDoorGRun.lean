import Derived.Test.YtnfghnolklhppaaDoorGKind1
import Derived.Test.YtnfghnolklhppaaDoorRunF
import Derived.Defers
import Derived.Recover
/- Blocks: plain facts for the program's reader. -/
namespace Go.Proofs.YtnfghnolklhppaaDoor
open Go.RowKit

/-- A call on the reader, its plan of kind 1 kept. -/
def RunsX (B : Nat) (w w' : World) (gx : Nat) (s : ByteArray) (vt : Value) (σ : St) : Prop :=
  ∃ vt' fx', Rd B w' gx s σ vt' fx' ∧ FixOk w' gx vt' fx' ∧ Kp w w' gx vt ∧ ∀ g, vt'.ownBlock = some g → vt.ownBlock = some g ∨ w.heap.size ≤ g

theorem kp_chain {w w1 w2 : World} {gx : Nat} {vt vt1 : Value} (k1 : Kp w w1 gx vt) (f1 : ∀ g, vt1.ownBlock = some g → vt.ownBlock = some g ∨ w.heap.size ≤ g) (k2 : Kp w1 w2 gx vt1) : Kp w w2 gx vt := by
  refine ⟨k2.os.trans k1.os, k2.tape.trans k1.tape, k2.output.trans k1.output, Nat.le_trans k1.size k2.size, fun b hb hx hv => ?_⟩
  rw [k2.block b (Nat.lt_of_lt_of_le hb k1.size) hx (fun e => ?_), k1.block b hb hx hv]
  rcases f1 b e with e' | e'
  · exact hv e'
  · omega
theorem fr_chain {w w1 : World} {gx : Nat} {vt vt1 vt2 : Value} (k1 : Kp w w1 gx vt) (f1 : ∀ g, vt1.ownBlock = some g → vt.ownBlock = some g ∨ w.heap.size ≤ g) (f2 : ∀ g, vt2.ownBlock = some g → vt1.ownBlock = some g ∨ w1.heap.size ≤ g) : ∀ g, vt2.ownBlock = some g → vt.ownBlock = some g ∨ w.heap.size ≤ g := by
  intro g hg
  rcases f2 g hg with e | e
  · exact f1 g e
  · exact Or.inr (Nat.le_trans k1.size e)

theorem runGo_fin {s : ByteArray} {f : Nat} {σ : St} (h : σ.fin = true) : runGo s f σ = σ := by
  cases f with
  | zero => rfl
  | succ f => simp only [runGo]; rw [if_neg (by rw [h]; simp)]
theorem runGo_dead {s : ByteArray} {f : Nat} {σ : St} (h : σ.why ≠ 0) : runGo s f σ = σ := by
  cases f with
  | zero => rfl
  | succ f => simp only [runGo]; rw [if_neg (fun c => h c.1)]

/-- The state of the loop over the blocks. -/
structure OutR (B : Nat) (w wr : World) (gx : Nat) (s : ByteArray) (vt : Value) (f : Nat) (σ goal : St) : Prop where
  fit : Fit s σ
  why : σ.why = 0
  runs : RunsX B w wr gx s vt σ
  few : restN s σ ≤ f
  eq : runGo s f σ = goal

/-- What a block leaves. -/
def endB (σb : St) (b : Nat) : St := { σb with fin := decide (σb.why = 0 ∧ b = 1) }

section
variable {B : Nat} {w wr : World} {gx : Nat} {s : ByteArray} {vt : Value} {f : Nat} {σ goal : St}
theorem OutR.f1 (h : OutR B w wr gx s vt f σ goal) : ∃ f', f = f' + 1 := ⟨f - 1, by have := h.few; unfold restN at this; rw [if_pos h.why] at this; omega⟩

/-- The reading of a block's head fails. -/
theorem OutR.head1 (h : OutR B w wr gx s vt f σ goal) (hf : σ.fin = false) (hy : (bitF s σ).2.why ≠ 0) : goal = (bitF s σ).2 := by
  obtain ⟨f', rfl⟩ := h.f1
  have e2 := numF_dead (s := s) 2 hy
  rw [← h.eq]
  simp only [runGo]
  have e : runStep s σ = (true, (numF s 2 (bitF s σ).2).2) := by unfold runStep; rw [if_pos (by rw [e2]; exact hy)]
  rw [if_pos ⟨h.why, hf⟩, e, if_pos rfl]
  exact e2
theorem OutR.head2 (h : OutR B w wr gx s vt f σ goal) (hf : σ.fin = false) {q : Nat × St} (hq : numF s 2 (bitF s σ).2 = q) (hy : q.2.why ≠ 0) : goal = q.2 := by
  obtain ⟨f', rfl⟩ := h.f1
  rw [← h.eq]
  simp only [runGo]
  have e : runStep s σ = (true, q.2) := by unfold runStep; rw [hq, if_pos hy]
  rw [if_pos ⟨h.why, hf⟩, e, if_pos rfl]
theorem OutR.body (h : OutR B w wr gx s vt f σ goal) (hf : σ.fin = false) {q : Nat × St} (hq : numF s 2 (bitF s σ).2 = q) (hy : q.2.why = 0) : goal = runGo s (f - 1) (endB (blockF s q.1 q.2) (bitF s σ).1) ∧ restN s (endB (blockF s q.1 q.2) (bitF s σ).1) < restN s σ ∧ Fit s (endB (blockF s q.1 q.2) (bitF s σ).1) := by
  have e : runStep s σ = (false, endB (blockF s q.1 q.2) (bitF s σ).1) := by unfold runStep endB; rw [hq, if_neg (by omega)]
  have h1 := runStep_rest h.fit h.why (by rw [e])
  have h2 := runStep_fit (s := s) h.fit
  rw [e] at h1 h2
  obtain ⟨f', rfl⟩ := h.f1
  refine ⟨?_, h1, h2⟩
  rw [← h.eq]
  simp only [runGo]
  rw [if_pos ⟨h.why, hf⟩, e, if_neg (by simp)]
  rfl
end

theorem there_used (z : Nat → Int) (n : Nat) : ∀ k, (∀ i, i < k → 0 ≤ z i) → (thereN (codeT z n) k = 0 ↔ usedN z k = 0)
  | 0, _ => ⟨fun _ => rfl, fun _ => rfl⟩
  | k + 1, h => by
    have ih := there_used z n k (fun i hi => h i (by omega))
    have hk := h k (by omega)
    simp only [thereN, usedN]
    by_cases h0 : z k = 0
    · rw [codeT_none h0, if_neg (by omega)]
      have : (ByteArray.empty).size = 0 := rfl
      omega
    · rw [codeT_one (by omega), bitsB_size, if_pos (by omega)]
      omega
theorem there_pas {z : Nat → Int} {n : Nat} (h : ∀ i, i < n → 0 ≤ z i ∧ z i ≤ 15) : thereN (codeT z n) n = 0 ↔ pas (cntN z n) 15 = 0 := by
  rw [there_used z n n (fun i hi => (h i hi).1), used_pas z n h]

theorem stepF_end {s : ByteArray} {c : Nat → ByteArray} {n there : Nat} (σ : St) : stepF s c n there (256, σ) = (true, σ) := by
  unfold stepF; rw [if_pos (Or.inr rfl)]
theorem stepF_dead {s : ByteArray} {c : Nat → ByteArray} {n there : Nat} {k : Int × St} (h : k.2.why ≠ 0) : stepF s c n there k = (true, k.2) := by
  unfold stepF; rw [if_pos (Or.inl h)]
theorem stepF_put {s : ByteArray} {c : Nat → ByteArray} {n there k : Nat} {σ : St} (h : σ.why = 0) (hk : k < 256) : stepF s c n there ((k : Int), σ) = (false, putF σ (UInt8.ofNat k)) := by
  unfold stepF
  rw [if_neg (by show ¬ (σ.why ≠ 0 ∨ (k : Int) = 256); omega), if_pos (by show (k : Int) < 256; omega)]
  rfl
theorem stepF_again {s : ByteArray} {z : Nat → Int} {n k : Nat} {σ : St} (hz : ∀ i, i < n → 0 ≤ z i ∧ z i ≤ 15) (h : σ.why = 0) (hk : 256 < k) : stepF s (codeT z n) n (thereN (codeT z n) n) ((k : Int), σ) = (false, againF s z n k σ) := by
  have ht := there_pas hz
  unfold stepF
  rw [if_neg (by show ¬ (σ.why ≠ 0 ∨ (k : Int) = 256); omega), if_neg (by show ¬ (k : Int) < 256; omega)]
  by_cases hb : 285 < k ∨ pas (cntN z n) 15 = 0
  · rw [if_pos (by show (285 : Int) < (k : Int) ∨ _; rw [ht]; omega), againF_bad hb, stopF_alive h]
  · rw [if_neg (by show ¬ ((285 : Int) < (k : Int) ∨ _); rw [ht]; omega)]
    unfold againF
    rw [if_neg hb]
    rfl

/-- The state of the loop over the symbols. -/
structure InR (B : Nat) (w wr : World) (gx : Nat) (s : ByteArray) (vt : Value) (gp : Nat) (z1 : Nat → Int) (n1 : Nat) (z2 : Nat → Int) (n2 f : Nat) (σ cg : St) : Prop where
  fit : Fit s σ
  why : σ.why = 0
  runs : ∃ vt' fx', Rd B wr gx s σ vt' fx' ∧ FixOk wr gx vt' fx' ∧ Kp w wr gx vt ∧ (∀ g, vt'.ownBlock = some g → vt.ownBlock = some g ∨ w.heap.size ≤ g) ∧ PlanOk wr gx vt' gp z1 n1 z2 n2
  few : restN s σ ≤ f
  eq : codedGo s (codeT z1 n1) n1 (codeT z2 n2) n2 f σ = cg

section
variable {B : Nat} {w wr : World} {gx : Nat} {s : ByteArray} {vt : Value} {gp n1 n2 f : Nat} {z1 z2 : Nat → Int} {σ cg : St}
theorem InR.f1 (h : InR B w wr gx s vt gp z1 n1 z2 n2 f σ cg) : ∃ f', f = f' + 1 := ⟨f - 1, by have := h.few; unfold restN at this; rw [if_pos h.why] at this; omega⟩
theorem InR.stop (h : InR B w wr gx s vt gp z1 n1 z2 n2 f σ cg) {σ' : St} (he : stepF s (codeT z2 n2) n2 (thereN (codeT z2 n2) n2) (symF s (codeT z1 n1) n1 σ) = (true, σ')) : cg = σ' := by
  obtain ⟨f', rfl⟩ := h.f1
  rw [← h.eq]
  simp only [codedGo]
  rw [if_neg (by have := h.why; omega), he, if_pos rfl]
theorem InR.next (h : InR B w wr gx s vt gp z1 n1 z2 n2 f σ cg) {σ' : St} (he : stepF s (codeT z2 n2) n2 (thereN (codeT z2 n2) n2) (symF s (codeT z1 n1) n1 σ) = (false, σ')) : cg = codedGo s (codeT z1 n1) n1 (codeT z2 n2) n2 (f - 1) σ' := by
  obtain ⟨f', rfl⟩ := h.f1
  rw [← h.eq]
  simp only [codedGo]
  rw [if_neg (by have := h.why; omega), he, if_neg (by simp)]
  rfl
end

/-- What blocks answers. -/
def BkPost (B : Nat) (w : World) (gx : Nat) (s : ByteArray) (vt : Value) (goal : St) (e : Ending) (w' : World) : Prop := e = endOf goal.why (.tuple #[]) ∧ ∃ vt' fx', Rd B w' gx s goal vt' fx' ∧ Kp w w' gx vt

theorem BkPost.mk' {B : Nat} {w w' : World} {gx : Nat} {s : ByteArray} {vt vt' fx' : Value} {goal σ' : St} {v : Value} (hy : σ'.why ≠ 0) (h1 : goal.why = σ'.why) (h2 : goal.pos = σ'.pos) (h3 : goal.text = σ'.text) (hr : Rd B w' gx s σ' vt' fx') (hk : Kp w w' gx vt) : BkPost B w gx s vt goal (endOf σ'.why v) w' := by
  refine ⟨?_, vt', fx', hr.congr h2 h3, hk⟩
  rw [h1, endOf_bad hy, endOf_bad hy]

end Go.Proofs.YtnfghnolklhppaaDoor

/- The program's blocks, walked. -/
namespace Go.Proofs.YtnfghnolklhppaaDoor
open Go.RowKit

theorem wpList_load_set {P : Program} {ops : Array Oper} {rest : List Oper} {op : Oper} {a : Act} {w : World} {Q : Exit → Act → World → Prop} (hgd : op.guard = none) (ty : TypeId) (x : Operand) (ho : op.op = .load ty x)
    (b o : Nat) (hx : a.eval x = .pointer (some ⟨b, o, none⟩)) (A : Array Value) (d : TypeDesc) (hc : w.rangeAt b o A.toList)
    (hu : P.underlying ty = some d) (hd : d.isRow = true) (hi : (P.info? ty).map (·.size) = some A.size)
    (h : wpList P ops Q rest (a.put op.dst (.agg A)) w) : wpList P ops Q (op :: rest) a w :=
  wpList_load_mid hgd ty x ho b o hx A.toList d hc hu hd (by rw [Array.length_toList]; exact hi) (by rw [Array.toArray_toList]; exact h)

theorem fin_eq {σb : St} (b : Nat) (hy : σb.why = 0) : ((b : Int) == 1) = (endB σb b).fin := by
  show _ = decide (σb.why = 0 ∧ b = 1)
  rw [Bool.eq_iff_iff, beq_iff_eq, decide_eq_true_iff]
  omega

theorem againF_fit {s : ByteArray} {z : Nat → Int} {n y : Nat} {σ : St} (h : Fit s σ) : Fit s (againF s z n y σ) := by
  unfold againF
  split
  · exact ⟨h.pos, h.text⟩
  · exact h.pairF

theorem head_le (s : ByteArray) (σ : St) (h : (ownF s σ).2.why = 0) : (headF s σ).a ≤ 29 ∧ (headF s σ).b ≤ 29 := by
  have h1 := own_dead1 (s := s) (σ := σ) (p := numF s 5 σ) rfl
  by_cases hA : (stop29 (numF s 5 σ)).why = 0
  · obtain ⟨ha, hsA⟩ := stop29_le hA
    have h2 := own_dead2 (s := s) (σ := σ) (σ1 := (numF s 5 σ).2) (a := (numF s 5 σ).1) (p := numF s 5 (stop29 (numF s 5 σ))) rfl hsA (by rw [hsA])
    by_cases hC : (stop29 (numF s 5 (stop29 (numF s 5 σ)))).why = 0
    · obtain ⟨hb, _⟩ := stop29_le hC
      exact ⟨ha, hb⟩
    · rw [h2 hC] at h
      exact absurd h hC
  · rw [h1 hA] at h
    exact absurd h hA

set_option maxRecDepth 4000 in
set_option maxHeartbeats 4000000 in
theorem blocks_any (B gx : Nat) (s : ByteArray) (σ : St) (vt fx : Value) (w : World) (h : Rd B w gx s σ vt fx) (hB : B ≤ w.heap.size) (hs : s.size ≤ 140737488400000) (hf : Fit s σ) (hy : σ.why = 0) (hfin : σ.fin = false) (hgo : 0 < B) (hord : OrdIn w 0) (hfx : FixOk w gx vt fx) :
    Calls Tryd.prog 28 #[.pointer (some ⟨gx, 0, none⟩)] w (BkPost B w gx s vt (runGo s (8 * s.size + 1) σ)) := by
  have hgB := h.le
  have hvn : ∀ g, vt.ownBlock = some g → B ≤ g := fun g e => (h.own.lt g e).1
  have v0 : vt.ownBlock ≠ some 0 := fun e => by have := hvn _ e; omega
  have ox : 0 ≠ gx := by omega
  obtain ⟨goal, hgoal⟩ : ∃ goal, goal = runGo s (8 * s.size + 1) σ := ⟨_, rfl⟩
  rw [← hgoal]
  have R0 : OutR B w w gx s vt (8 * s.size + 1) σ goal := ⟨hf, hy, ⟨vt, fx, h, hfx, Kp.refl _ _ _, fun _ hg => Or.inl hg⟩, by unfold restN; split <;> omega, hgoal.symm⟩
  clear hgoal h hfx hf hy
  go_enter Tryd.func28, Tryd.ntmps28
  go_wp2_with fail
  go_step3
  go_wp2_with fail
  go_step3
  go_wp2_with fail
  go_loopg [2, 3, 4] (8 * s.size + 1) (fun f _ l _ wr => ∃ σ1 : St, l = .bool σ1.fin ∧ OutR B w wr gx s vt f σ1 goal)
  case atStart => exact ⟨σ, by rw [hfin], R0⟩
  case round =>
    obtain ⟨σ1, rfl, hrel⟩ := hrel
    clear R0 hfin
    obtain ⟨fo, hfo⟩ : ∃ fo, fo = gk := ⟨_, rfl⟩
    have HFO : Hid (fo = gk) := hfo
    rw [← hfo] at hrel
    clear hfo
    cases hfin : σ1.fin
    · obtain ⟨vt1, fx1, hrd, hfx, hkp, hfr⟩ := hrel.runs
      have hw0 := hrel.why
      have hfew := hrel.few
      have hf1 : 1 ≤ fo := by unfold restN at hfew; rw [if_pos hw0] at hfew; omega
      have HBI : Hid (_) := gbit_any B gx s σ1 vt1 fx1 wr hrd hs hrel.fit.pos hw0
      have f2 := hrel.fit.bit
      have hb2 := bitF_lt s σ1
      have HH1 : Hid (_) := hrel.head1 hfin
      have HH2 : Hid (_) := fun (q : Nat × St) => hrel.head2 hfin (q := q)
      have HBD : Hid (_) := fun (q : Nat × St) => hrel.body hfin (q := q)
      generalize bitF s σ1 = bb at HBI f2 hb2 HH1 HH2 HBD
      obtain ⟨b, σ2⟩ := bb
      try simp only at f2 hb2
      clear hrel hrd
      go_wp2_with fail
      refine Calls.mono HBI.out ?_
      rintro e w2 ⟨he, h2, k2⟩
      clear HBI
      by_cases hy2 : σ2.why = 0
      · rw [endOf_ok hy2] at he; subst he
        have HNU : Hid (_) := gnumber_any B gx 2 s σ2 vt1 fx1 w2 h2 hs f2.pos hy2 (by omega)
        have f3 := f2.num 2
        have nb := numF_ltK s 2 4 σ2 rfl
        try simp only at HH2 HBD
        generalize numF s 2 σ2 = q at HNU f3 nb HH2 HBD
        obtain ⟨kd, σ3⟩ := q
        try simp only at f3 nb
        clear h2 HH1
        go_wp2_with fail
        refine Calls.mono HNU.out ?_
        rintro e w3 ⟨he, h3, k3⟩
        have k23 := k2.trans k3
        have K3 := kp_chain hkp hfr k23
        have fx3 := hfx.kp k23 (fun _ hg => Or.inl hg)
        have hB3 : B ≤ w3.heap.size := Nat.le_trans hB K3.size
        clear HNU k2 k3
        by_cases hy3 : σ3.why = 0
        · rw [endOf_ok hy3] at he; subst he
          have HOUT0 := HBD.out (kd, σ3) rfl hy3
          try simp only at HOUT0
          clear HBD HH2
          rcases (by omega : kd = 0 ∨ kd = 1 ∨ kd = 2 ∨ kd = 3) with hc | hc | hc | hc
          · subst hc
            have hbl : blockF s 0 σ3 = plainF s σ3 := by unfold blockF; rw [if_pos rfl]
            rw [hbl] at HOUT0
            have HO : Hid (_) := HOUT0
            have HST : Hid (_) := stored_any B gx s σ3 vt1 fx1 w3 h3 hB3 hs f3 hy3
            generalize plainF s σ3 = σb at HO HST
            clear hbl HOUT0 h3
            go_wp2_with fail
            refine Calls.mono HST.out ?_
            rintro e w4 ⟨he, vt4, h4, k4, fr4⟩
            have K4 := kp_chain hkp hfr (k23.trans k4)
            have F4 := fr_chain hkp hfr (fr_chain k23 (fun _ hg => Or.inl hg) fr4)
            have fx4 := fx3.kp k4 fr4
            clear HST k4 fr4 fx3 K3
            by_cases hyb : σb.why = 0
            · rw [endOf_ok hyb] at he; subst he
              have R : OutR B w w4 gx s vt (fo - 1) (endB σb b) goal := ⟨HO.out.2.2, hyb, ⟨vt4, fx1, h4.congr rfl rfl, fx4, K4, F4⟩, by have := HO.out.2.1; omega, HO.out.1.symm⟩
              have HFN : Hid (((b : Int) == 1) = (endB σb b).fin) := fin_eq b hyb
              clear HO h4 fx4 K4 F4 hkp hfr k23
              go_wp2
              go_roundg (fo - 1)
              case measure => have := HFO.out; omega
              case rel => exact ⟨endB σb b, by rw [← HFN.out], R⟩
            · have hgd : goal = endB σb b := by rw [HO.out.1]; exact runGo_dead hyb
              have P : BkPost B w gx s vt goal (endOf σb.why .nilFunc) w4 := BkPost.mk' hyb (by rw [hgd]; rfl) (by rw [hgd]; rfl) (by rw [hgd]; rfl) h4 K4
              rw [endOf_bad hyb] at he P; subst he
              clear HO hgd h4 fx4 K4 F4 hkp hfr k23
              go_wp2
              exact ⟨rfl, P⟩
          · subst hc
            have hbl : blockF s 1 σ3 = codedF s (codeT fixZ 288) 288 (codeT fivZ 32) 32 σ3 := by unfold blockF; rw [if_neg (by omega), if_pos rfl]
            rw [hbl] at HOUT0
            have HOUT : Hid (_) := HOUT0
            have HK1 : Hid (_) := kind1_any B gx s σ3 vt1 fx1 w3 h3 fx3
            clear hbl HOUT0 h3
            go_wp2_with fail
            refine Calls.mono HK1.out ?_
            rintro e wp ⟨gp, rfl, hrc, kc, hpc⟩
            have KPc := kp_chain hkp hfr (k23.trans kc)
            have hfc : FixOk wp gx vt1 (.pointer (some ⟨gp, 0, none⟩)) := Or.inr ⟨gp, rfl, hpc⟩
            obtain ⟨σc, hσc⟩ : ∃ σc, σc = σ3 := ⟨_, rfl⟩
            obtain ⟨vtc, hvtc⟩ : ∃ v, v = vt1 := ⟨_, rfl⟩
            obtain ⟨fxc, hfxc⟩ : ∃ v, v = Value.pointer (some ⟨gp, 0, none⟩) := ⟨_, rfl⟩
            have ftc := f3
            have hyc := hy3
            have frc := hfr
            rw [← hvtc] at hrc hfc hpc frc
            rw [← hfxc] at hrc hfc
            rw [← hσc] at hrc HOUT ftc hyc
            clear HK1 kc fx3 K3 hσc hvtc hfxc hkp k23 f3 hy3 hfr hfx f2 hy2
            obtain ⟨cg, hcg⟩ : ∃ cg, cg = codedF s (codeT (fixZ) (288)) (288) (codeT (fivZ) (32)) (32) σc := ⟨_, rfl⟩
            have hO : goal = runGo s (fo - 1) (endB cg b) ∧ restN s (endB cg b) < restN s σ1 ∧ Fit s (endB cg b) := by rw [hcg]; exact HOUT.out
            have HO : Hid (_) := hO
            have R1 : InR B w wp gx s vt gp (fixZ) (288) (fivZ) (32) (8 * s.size + 1) σc cg := ⟨ftc, hyc, ⟨vtc, fxc, hrc, hfc, KPc, frc, hpc⟩, by unfold restN; split <;> omega, hcg.symm⟩
            have hn1 : 288 ≤ 288 := by omega
            clear hO hcg HOUT hrc hfc KPc frc hpc ftc hyc
            go_wp2_with fail
            go_loopg [4] (8 * s.size + 1) (fun f _ wr => ∃ σ4 : St, InR B w wr gx s vt gp (fixZ) (288) (fivZ) (32) f σ4 cg)
            case atStart => exact ⟨σc, R1⟩
            case round =>
              obtain ⟨σ4, hin⟩ := hrel
              clear R1
              obtain ⟨vt4, fx4, hrd4, hfx4, hk4, hf4, g1, sy1, g2, sy2, hpl⟩ := hin.runs
              have hi1 : (Tryd.prog.info? 80).map (·.size) = some (setL (fixZ) (288) g1).size := Tryd.size80
              have hr1 := hpl.r1
              have HSY : Hid (_) := gsymbol_any B gx g1 (288) s σ4 vt4 fx4 (fixZ) sy1 wr hrd4 hs hin.fit hin.why hpl.s1 hpl.f1.nx hpl.f1.nv
              have hfst := symF_fst (codeT_size hpl.s1.tidy) σ4 (s := s)
              have f5 : Fit s (symF s (codeT (fixZ) (288)) (288) σ4).2 := hin.fit.symF
              have HST : Hid (_) := fun σ' => hin.stop (σ' := σ')
              have HNX : Hid (_) := fun σ' => hin.next (σ' := σ')
              have HRS : Hid (_) := restN_sym (s := s) (l := codeT (fixZ) (288)) (nl := 288) (c := codeT (fivZ) (32)) (n := 32) (there := thereN (codeT (fivZ) (32)) (32)) hin.fit hin.why
              have hfw := hin.few
              rw [setV_eq] at HSY
              generalize hA1 : setL (fixZ) (288) g1 = A1 at hr1 hi1 HSY
              go_wp2_with (first | (refine wpList_load_set rfl 80 (.tmp 32) rfl gp 0 rfl A1 _ hr1 Tryd.underlying80 rfl hi1 ?_) | fail)
              refine Calls.mono HSY.out ?_
              rintro e w5 ⟨he, h5, k5⟩
              have K5 := kp_chain hk4 hf4 k5
              have fx5 := hfx4.kp k5 (fun _ hg => Or.inl hg)
              have pl5 := hpl.kp k5 (fun _ hg => Or.inl hg)
              have hB5 : B ≤ w5.heap.size := Nat.le_trans (Nat.le_trans hB hk4.size) k5.size
              have hz2 := hpl.s2.tidy.rng
              generalize symF s (codeT (fixZ) (288)) (288) σ4 = q at he h5 hfst f5 HST HNX HRS
              obtain ⟨kk, σ5⟩ := q
              try simp only at he h5 hfst f5 HRS
              clear HSY hin hrd4 hfx4 hpl hr1 hi1 hA1
              by_cases hy5 : σ5.why = 0
              · rw [endOf_ok hy5] at he; subst he
                obtain ⟨y, hyn, rfl⟩ := hfst hy5
                have hrs := HRS.out hy5
                clear hfst HRS
                have hyb : y ≤ 1000 := by omega
                rcases (by omega : y < 256 ∨ y = 256 ∨ 256 < y) with hc | hc | hc
                · have hs1 := stepF_put (s := s) (c := codeT (fivZ) (32)) (n := 32) (there := thereN (codeT (fivZ) (32)) (32)) hy5 hc
                  have hn := HNX.out _ hs1
                  rw [hs1] at hrs
                  have HC : Hid ((y : Int) = (((UInt8.ofNat y).toNat : Nat) : Int)) := by show _ = _; rw [UInt8.toNat_ofNat', Nat.mod_eq_of_lt (by omega)]
                  have PP := gput_any B gx s σ5 vt4 fx4 (UInt8.ofNat y) w5 h5 hB5 f5.text hy5
                  rw [← HC.out] at PP
                  have HP : Hid (_) := PP
                  have f6 := f5.put (UInt8.ofNat y)
                  clear PP hs1 HST HNX
                  go_wp2_with fail
                  refine Calls.mono HP.out ?_
                  rintro e w6 ⟨he, vt6, h6, k6, fr6⟩
                  have K6 := kp_chain hk4 hf4 (k5.trans k6)
                  have F6 := fr_chain (hk4) hf4 (fr_chain k5 (fun _ hg => Or.inl hg) fr6)
                  have fx6 := fx5.kp k6 fr6
                  have pl6 : PlanOk w6 gx vt6 gp (fixZ) (288) (fivZ) (32) := ⟨g1, sy1, g2, sy2, pl5.kp k6 fr6⟩
                  clear HP h5 k6 k5 K5 fx5 pl5 fr6
                  generalize putF σ5 (UInt8.ofNat y) = σ6 at he h6 hn hrs f6
                  by_cases hy6 : σ6.why = 0
                  · rw [endOf_ok hy6] at he; subst he
                    have R : InR B w w6 gx s vt gp (fixZ) (288) (fivZ) (32) (gk - 1) σ6 cg := ⟨f6, hy6, ⟨vt6, fx4, h6, fx6, K6, F6, pl6⟩, by omega, hn.symm⟩
                    have hg1 : 1 ≤ gk := by omega
                    clear h6 fx6 K6 F6 pl6 hn hk4 hf4
                    go_wp2
                    go_roundg (gk - 1)
                    case measure => omega
                    case rel => exact ⟨_, R⟩
                  · have hcd : cg = σ6 := by rw [hn]; exact codedGo_dead hy6 _
                    have hgd : goal = endB cg b := by rw [HO.out.1]; exact runGo_dead (by rw [hcd]; exact hy6)
                    have P : BkPost B w gx s vt goal (endOf σ6.why .nilFunc) w6 := BkPost.mk' hy6 (by rw [hgd, hcd]; rfl) (by rw [hgd, hcd]; rfl) (by rw [hgd, hcd]; rfl) h6 K6
                    rw [endOf_bad hy6] at he P; subst he
                    clear HO hn hcd hgd h6 fx6 K6 F6 pl6 hk4 hf4
                    go_wp2
                    exact ⟨rfl, P⟩
                · subst hc
                  have hcd : cg = σ5 := HST.out σ5 (stepF_end σ5)
                  have hO := HO.out
                  rw [hcd] at hO
                  have R : OutR B w w5 gx s vt (fo - 1) (endB σ5 b) goal := ⟨hO.2.2, hy5, ⟨vt4, fx4, h5.congr rfl rfl, fx5, K5, hf4⟩, by have := hO.2.1; omega, hO.1.symm⟩
                  have HFN : Hid (((b : Int) == 1) = (endB σ5 b).fin) := fin_eq b hy5
                  clear HO hcd hO h5 fx5 K5 k5 pl5 hk4 hf4 HST HNX
                  go_wp2
                  go_roundg (fo - 1)
                  case measure => have := HFO.out; omega
                  case rel => exact ⟨endB σ5 b, by rw [← HFN.out], R⟩
                · have hs1 := stepF_again (s := s) (z := fivZ) (n := 32) hz2 hy5 hc
                  have hn := HNX.out _ hs1
                  rw [hs1] at hrs
                  have hi2 : (Tryd.prog.info? 80).map (·.size) = some (setL (fivZ) (32) g2).size := Tryd.size80
                  have hr2 := pl5.r2
                  have HP : Hid (_) := again_any B gx g2 (32) y s σ5 vt4 fx4 (fivZ) sy2 w5 h5 hs f5 hy5 pl5.s2 pl5.f2.nx pl5.f2.nv (by omega) hyb
                  rw [setV_eq] at HP
                  have f6 : Fit s (againF s (fivZ) (32) y σ5) := againF_fit f5
                  generalize hA2 : setL (fivZ) (32) g2 = A2 at hr2 hi2 HP
                  clear hs1 HST HNX hA2
                  go_wp2_with (first | (refine wpList_load_set rfl 80 (.tmp 49) rfl gp 17 rfl A2 _ hr2 Tryd.underlying80 rfl hi2 ?_) | fail)
                  refine Calls.mono HP.out ?_
                  clear hr2 hi2
                  rintro e w6 ⟨he, vt6, h6, k6, fr6⟩
                  have K6 := kp_chain hk4 hf4 (k5.trans k6)
                  have F6 := fr_chain (hk4) hf4 (fr_chain k5 (fun _ hg => Or.inl hg) fr6)
                  have fx6 := fx5.kp k6 fr6
                  have pl6 : PlanOk w6 gx vt6 gp (fixZ) (288) (fivZ) (32) := ⟨g1, sy1, g2, sy2, pl5.kp k6 fr6⟩
                  clear HP h5 k6 k5 K5 fx5 pl5 fr6
                  generalize againF s (fivZ) (32) y σ5 = σ6 at he h6 hn hrs f6
                  by_cases hy6 : σ6.why = 0
                  · rw [endOf_ok hy6] at he; subst he
                    have R : InR B w w6 gx s vt gp (fixZ) (288) (fivZ) (32) (gk - 1) σ6 cg := ⟨f6, hy6, ⟨vt6, fx4, h6, fx6, K6, F6, pl6⟩, by omega, hn.symm⟩
                    have hg1 : 1 ≤ gk := by omega
                    clear h6 fx6 K6 F6 pl6 hn hk4 hf4
                    go_wp2
                    go_roundg (gk - 1)
                    case measure => omega
                    case rel => exact ⟨_, R⟩
                  · have hcd : cg = σ6 := by rw [hn]; exact codedGo_dead hy6 _
                    have hgd : goal = endB cg b := by rw [HO.out.1]; exact runGo_dead (by rw [hcd]; exact hy6)
                    have P : BkPost B w gx s vt goal (endOf σ6.why .nilFunc) w6 := BkPost.mk' hy6 (by rw [hgd, hcd]; rfl) (by rw [hgd, hcd]; rfl) (by rw [hgd, hcd]; rfl) h6 K6
                    rw [endOf_bad hy6] at he P; subst he
                    clear HO hn hcd hgd h6 fx6 K6 F6 pl6 hk4 hf4
                    go_wp2
                    exact ⟨rfl, P⟩
              · have hcd : cg = σ5 := HST.out σ5 (stepF_dead (k := (kk, σ5)) hy5)
                have hgd : goal = endB cg b := by rw [HO.out.1]; exact runGo_dead (by rw [hcd]; exact hy5)
                have P : BkPost B w gx s vt goal (endOf σ5.why .nilFunc) w5 := BkPost.mk' hy5 (by rw [hgd, hcd]; rfl) (by rw [hgd, hcd]; rfl) (by rw [hgd, hcd]; rfl) h5 K5
                rw [endOf_bad hy5] at he P; subst he
                clear HO hcd hgd h5 fx5 K5 k5 pl5 hk4 hf4 HST HNX HRS hfst
                go_wp2
                exact ⟨rfl, P⟩
          · subst hc
            have hbl : blockF s 2 σ3 = ownBlk s σ3 := by unfold blockF; rw [if_neg (by omega), if_neg (by omega), if_pos rfl]
            rw [hbl] at HOUT0
            unfold ownBlk at HOUT0
            have HOUTX : Hid (_) := HOUT0
            have HK2 : Hid (_) := kind2_any B gx s σ3 vt1 fx1 w3 h3 hs f3 hy3 hgo (hord.kp K3 ox v0)
            have f7 : Fit s (ownF s σ3).2 := ownF_fit f3
            have hH : (ownF s σ3).2.why = 0 → (headF s σ3).a ≤ 29 ∧ (headF s σ3).b ≤ 29 := head_le s σ3
            generalize ownF s σ3 = og at HOUTX HK2 f7 hH
            generalize headF s σ3 = hd at HOUTX HK2 hH
            obtain ⟨LL, σc⟩ := og
            try simp only at HOUTX f7 hH
            clear hbl HOUT0 h3
            go_wp2_with fail
            refine Calls.mono HK2.out ?_
            rintro e wp ⟨hrc, kc, hcase⟩
            try simp only at hrc hcase
            have KPc := kp_chain hkp hfr (k23.trans kc)
            have hfc := fx3.kp kc (fun _ hg => Or.inl hg)
            rcases hcase with ⟨hyc, gp, rfl, hpc⟩ | ⟨hyc, he⟩
            · obtain ⟨hda, hdb⟩ := hH hyc
              obtain ⟨N1, hN1⟩ : ∃ N1, N1 = hd.a + 257 := ⟨_, rfl⟩
              obtain ⟨N2, hN2⟩ : ∃ N2, N2 = hd.b + 1 := ⟨_, rfl⟩
              have HOUT : Hid (_) := HOUTX.out
              rw [← hN1, ← hN2] at HOUT hpc
              have hN1b : N1 ≤ 288 := by omega
              have hN2b : N2 ≤ 288 := by omega
              obtain ⟨vtc, hvtc⟩ : ∃ v, v = vt1 := ⟨_, rfl⟩
              obtain ⟨fxc, hfxc⟩ : ∃ v, v = fx1 := ⟨_, rfl⟩
              have ftc := f7
              have frc := hfr
              rw [← hvtc] at hrc hfc hpc frc
              rw [← hfxc] at hrc hfc
              clear HOUTX HK2 kc fx3 K3 hvtc hfxc hkp k23 f3 hy3 hfr hfx f2 hy2 f7 hH hda hdb hN1 hN2
              obtain ⟨cg, hcg⟩ : ∃ cg, cg = codedF s (codeT (lenZ LL 0) (N1)) (N1) (codeT (lenZ LL N1) (N2)) (N2) σc := ⟨_, rfl⟩
              have hO : goal = runGo s (fo - 1) (endB cg b) ∧ restN s (endB cg b) < restN s σ1 ∧ Fit s (endB cg b) := by rw [hcg]; exact HOUT.out
              have HO : Hid (_) := hO
              have R1 : InR B w wp gx s vt gp (lenZ LL 0) (N1) (lenZ LL N1) (N2) (8 * s.size + 1) σc cg := ⟨ftc, hyc, ⟨vtc, fxc, hrc, hfc, KPc, frc, hpc⟩, by unfold restN; split <;> omega, hcg.symm⟩
              have hn1 : N1 ≤ 288 := by omega
              clear hO hcg HOUT hrc hfc KPc frc hpc ftc hyc
              go_wp2_with fail
              go_loopg [4] (8 * s.size + 1) (fun f _ wr => ∃ σ4 : St, InR B w wr gx s vt gp (lenZ LL 0) (N1) (lenZ LL N1) (N2) f σ4 cg)
              case atStart => exact ⟨σc, R1⟩
              case round =>
                obtain ⟨σ4, hin⟩ := hrel
                clear R1
                obtain ⟨vt4, fx4, hrd4, hfx4, hk4, hf4, g1, sy1, g2, sy2, hpl⟩ := hin.runs
                have hi1 : (Tryd.prog.info? 80).map (·.size) = some (setL (lenZ LL 0) (N1) g1).size := Tryd.size80
                have hr1 := hpl.r1
                have HSY : Hid (_) := gsymbol_any B gx g1 (N1) s σ4 vt4 fx4 (lenZ LL 0) sy1 wr hrd4 hs hin.fit hin.why hpl.s1 hpl.f1.nx hpl.f1.nv
                have hfst := symF_fst (codeT_size hpl.s1.tidy) σ4 (s := s)
                have f5 : Fit s (symF s (codeT (lenZ LL 0) (N1)) (N1) σ4).2 := hin.fit.symF
                have HST : Hid (_) := fun σ' => hin.stop (σ' := σ')
                have HNX : Hid (_) := fun σ' => hin.next (σ' := σ')
                have HRS : Hid (_) := restN_sym (s := s) (l := codeT (lenZ LL 0) (N1)) (nl := N1) (c := codeT (lenZ LL N1) (N2)) (n := N2) (there := thereN (codeT (lenZ LL N1) (N2)) (N2)) hin.fit hin.why
                have hfw := hin.few
                rw [setV_eq] at HSY
                generalize hA1 : setL (lenZ LL 0) (N1) g1 = A1 at hr1 hi1 HSY
                go_wp2_with (first | (refine wpList_load_set rfl 80 (.tmp 32) rfl gp 0 rfl A1 _ hr1 Tryd.underlying80 rfl hi1 ?_) | fail)
                refine Calls.mono HSY.out ?_
                rintro e w5 ⟨he, h5, k5⟩
                have K5 := kp_chain hk4 hf4 k5
                have fx5 := hfx4.kp k5 (fun _ hg => Or.inl hg)
                have pl5 := hpl.kp k5 (fun _ hg => Or.inl hg)
                have hB5 : B ≤ w5.heap.size := Nat.le_trans (Nat.le_trans hB hk4.size) k5.size
                have hz2 := hpl.s2.tidy.rng
                generalize symF s (codeT (lenZ LL 0) (N1)) (N1) σ4 = q at he h5 hfst f5 HST HNX HRS
                obtain ⟨kk, σ5⟩ := q
                try simp only at he h5 hfst f5 HRS
                clear HSY hin hrd4 hfx4 hpl hr1 hi1 hA1
                by_cases hy5 : σ5.why = 0
                · rw [endOf_ok hy5] at he; subst he
                  obtain ⟨y, hyn, rfl⟩ := hfst hy5
                  have hrs := HRS.out hy5
                  clear hfst HRS
                  have hyb : y ≤ 1000 := by omega
                  rcases (by omega : y < 256 ∨ y = 256 ∨ 256 < y) with hc | hc | hc
                  · have hs1 := stepF_put (s := s) (c := codeT (lenZ LL N1) (N2)) (n := N2) (there := thereN (codeT (lenZ LL N1) (N2)) (N2)) hy5 hc
                    have hn := HNX.out _ hs1
                    rw [hs1] at hrs
                    have HC : Hid ((y : Int) = (((UInt8.ofNat y).toNat : Nat) : Int)) := by show _ = _; rw [UInt8.toNat_ofNat', Nat.mod_eq_of_lt (by omega)]
                    have PP := gput_any B gx s σ5 vt4 fx4 (UInt8.ofNat y) w5 h5 hB5 f5.text hy5
                    rw [← HC.out] at PP
                    have HP : Hid (_) := PP
                    have f6 := f5.put (UInt8.ofNat y)
                    clear PP hs1 HST HNX
                    go_wp2_with fail
                    refine Calls.mono HP.out ?_
                    rintro e w6 ⟨he, vt6, h6, k6, fr6⟩
                    have K6 := kp_chain hk4 hf4 (k5.trans k6)
                    have F6 := fr_chain (hk4) hf4 (fr_chain k5 (fun _ hg => Or.inl hg) fr6)
                    have fx6 := fx5.kp k6 fr6
                    have pl6 : PlanOk w6 gx vt6 gp (lenZ LL 0) (N1) (lenZ LL N1) (N2) := ⟨g1, sy1, g2, sy2, pl5.kp k6 fr6⟩
                    clear HP h5 k6 k5 K5 fx5 pl5 fr6
                    generalize putF σ5 (UInt8.ofNat y) = σ6 at he h6 hn hrs f6
                    by_cases hy6 : σ6.why = 0
                    · rw [endOf_ok hy6] at he; subst he
                      have R : InR B w w6 gx s vt gp (lenZ LL 0) (N1) (lenZ LL N1) (N2) (gk - 1) σ6 cg := ⟨f6, hy6, ⟨vt6, fx4, h6, fx6, K6, F6, pl6⟩, by omega, hn.symm⟩
                      have hg1 : 1 ≤ gk := by omega
                      clear h6 fx6 K6 F6 pl6 hn hk4 hf4
                      go_wp2
                      go_roundg (gk - 1)
                      case measure => omega
                      case rel => exact ⟨_, R⟩
                    · have hcd : cg = σ6 := by rw [hn]; exact codedGo_dead hy6 _
                      have hgd : goal = endB cg b := by rw [HO.out.1]; exact runGo_dead (by rw [hcd]; exact hy6)
                      have P : BkPost B w gx s vt goal (endOf σ6.why .nilFunc) w6 := BkPost.mk' hy6 (by rw [hgd, hcd]; rfl) (by rw [hgd, hcd]; rfl) (by rw [hgd, hcd]; rfl) h6 K6
                      rw [endOf_bad hy6] at he P; subst he
                      clear HO hn hcd hgd h6 fx6 K6 F6 pl6 hk4 hf4
                      go_wp2
                      exact ⟨rfl, P⟩
                  · subst hc
                    have hcd : cg = σ5 := HST.out σ5 (stepF_end σ5)
                    have hO := HO.out
                    rw [hcd] at hO
                    have R : OutR B w w5 gx s vt (fo - 1) (endB σ5 b) goal := ⟨hO.2.2, hy5, ⟨vt4, fx4, h5.congr rfl rfl, fx5, K5, hf4⟩, by have := hO.2.1; omega, hO.1.symm⟩
                    have HFN : Hid (((b : Int) == 1) = (endB σ5 b).fin) := fin_eq b hy5
                    clear HO hcd hO h5 fx5 K5 k5 pl5 hk4 hf4 HST HNX
                    go_wp2
                    go_roundg (fo - 1)
                    case measure => have := HFO.out; omega
                    case rel => exact ⟨endB σ5 b, by rw [← HFN.out], R⟩
                  · have hs1 := stepF_again (s := s) (z := lenZ LL N1) (n := N2) hz2 hy5 hc
                    have hn := HNX.out _ hs1
                    rw [hs1] at hrs
                    have hi2 : (Tryd.prog.info? 80).map (·.size) = some (setL (lenZ LL N1) (N2) g2).size := Tryd.size80
                    have hr2 := pl5.r2
                    have HP : Hid (_) := again_any B gx g2 (N2) y s σ5 vt4 fx4 (lenZ LL N1) sy2 w5 h5 hs f5 hy5 pl5.s2 pl5.f2.nx pl5.f2.nv (by omega) hyb
                    rw [setV_eq] at HP
                    have f6 : Fit s (againF s (lenZ LL N1) (N2) y σ5) := againF_fit f5
                    generalize hA2 : setL (lenZ LL N1) (N2) g2 = A2 at hr2 hi2 HP
                    clear hs1 HST HNX hA2
                    go_wp2_with (first | (refine wpList_load_set rfl 80 (.tmp 49) rfl gp 17 rfl A2 _ hr2 Tryd.underlying80 rfl hi2 ?_) | fail)
                    refine Calls.mono HP.out ?_
                    clear hr2 hi2
                    rintro e w6 ⟨he, vt6, h6, k6, fr6⟩
                    have K6 := kp_chain hk4 hf4 (k5.trans k6)
                    have F6 := fr_chain (hk4) hf4 (fr_chain k5 (fun _ hg => Or.inl hg) fr6)
                    have fx6 := fx5.kp k6 fr6
                    have pl6 : PlanOk w6 gx vt6 gp (lenZ LL 0) (N1) (lenZ LL N1) (N2) := ⟨g1, sy1, g2, sy2, pl5.kp k6 fr6⟩
                    clear HP h5 k6 k5 K5 fx5 pl5 fr6
                    generalize againF s (lenZ LL N1) (N2) y σ5 = σ6 at he h6 hn hrs f6
                    by_cases hy6 : σ6.why = 0
                    · rw [endOf_ok hy6] at he; subst he
                      have R : InR B w w6 gx s vt gp (lenZ LL 0) (N1) (lenZ LL N1) (N2) (gk - 1) σ6 cg := ⟨f6, hy6, ⟨vt6, fx4, h6, fx6, K6, F6, pl6⟩, by omega, hn.symm⟩
                      have hg1 : 1 ≤ gk := by omega
                      clear h6 fx6 K6 F6 pl6 hn hk4 hf4
                      go_wp2
                      go_roundg (gk - 1)
                      case measure => omega
                      case rel => exact ⟨_, R⟩
                    · have hcd : cg = σ6 := by rw [hn]; exact codedGo_dead hy6 _
                      have hgd : goal = endB cg b := by rw [HO.out.1]; exact runGo_dead (by rw [hcd]; exact hy6)
                      have P : BkPost B w gx s vt goal (endOf σ6.why .nilFunc) w6 := BkPost.mk' hy6 (by rw [hgd, hcd]; rfl) (by rw [hgd, hcd]; rfl) (by rw [hgd, hcd]; rfl) h6 K6
                      rw [endOf_bad hy6] at he P; subst he
                      clear HO hn hcd hgd h6 fx6 K6 F6 pl6 hk4 hf4
                      go_wp2
                      exact ⟨rfl, P⟩
                · have hcd : cg = σ5 := HST.out σ5 (stepF_dead (k := (kk, σ5)) hy5)
                  have hgd : goal = endB cg b := by rw [HO.out.1]; exact runGo_dead (by rw [hcd]; exact hy5)
                  have P : BkPost B w gx s vt goal (endOf σ5.why .nilFunc) w5 := BkPost.mk' hy5 (by rw [hgd, hcd]; rfl) (by rw [hgd, hcd]; rfl) (by rw [hgd, hcd]; rfl) h5 K5
                  rw [endOf_bad hy5] at he P; subst he
                  clear HO hcd hgd h5 fx5 K5 k5 pl5 hk4 hf4 HST HNX HRS hfst
                  go_wp2
                  exact ⟨rfl, P⟩
            · have hcd := codedF_dead (s := s) (l := codeT (lenZ LL 0) (hd.a + 257)) (nl := hd.a + 257) (d := codeT (lenZ LL (hd.a + 257)) (hd.b + 1)) (nd := hd.b + 1) hyc
              have hgd : goal = endB σc b := by rw [HOUTX.out.1, hcd]; exact runGo_dead hyc
              have P : BkPost B w gx s vt goal (endOf σc.why .nilFunc) wp := BkPost.mk' hyc (by rw [hgd]; rfl) (by rw [hgd]; rfl) (by rw [hgd]; rfl) hrc KPc
              rw [endOf_bad hyc] at he P; subst he
              clear HOUTX HK2 hcd hgd hrc kc KPc hfc fx3 K3 hkp hfr k23
              go_wp2
              exact ⟨rfl, P⟩
          · subst hc
            have hbl : blockF s 3 σ3 = { σ3 with why := 1 } := by unfold blockF; rw [if_neg (by omega), if_neg (by omega), if_neg (by omega)]; exact stopF_alive hy3
            rw [hbl] at HOUT0
            have hgd : goal = endB { σ3 with why := 1 } b := by rw [HOUT0.1]; exact runGo_dead (by show (1 : Nat) ≠ 0; omega)
            have P : BkPost B w gx s vt goal (endOf 1 .nilFunc) w3 := BkPost.mk' (σ' := { σ3 with why := 1 }) (by show (1 : Nat) ≠ 0; omega) (by rw [hgd]; rfl) (by rw [hgd]; rfl) (by rw [hgd]; rfl) (h3.congr rfl rfl) K3
            clear hbl HOUT0 hgd h3 K3 fx3 hkp hfr k23
            go_wp2_with fail
            refine (wrong_any _).mono ?_
            rintro e w9 ⟨rfl, rfl⟩
            rw [endOf_bad (by omega)]
            rw [endOf_bad (by omega)] at P
            go_wp2
            exact ⟨rfl, P⟩
        · have hgd : goal = σ3 := HH2.out (kd, σ3) rfl hy3
          have P : BkPost B w gx s vt goal (endOf σ3.why .nilFunc) w3 := BkPost.mk' hy3 (by rw [hgd]) (by rw [hgd]) (by rw [hgd]) h3 K3
          rw [endOf_bad hy3] at he P; subst he
          clear HH2 HBD hgd h3 K3 fx3 hkp hfr k23
          go_wp2
          exact ⟨rfl, P⟩
      · have hgd : goal = σ2 := HH1.out hy2
        have K2 := kp_chain hkp hfr k2
        have P : BkPost B w gx s vt goal (endOf σ2.why .nilFunc) w2 := BkPost.mk' hy2 (by rw [hgd]) (by rw [hgd]) (by rw [hgd]) h2 K2
        rw [endOf_bad hy2] at he P; subst he
        clear HH1 HH2 HBD hgd h2 K2 hkp hfr k2
        go_wp2
        exact ⟨rfl, P⟩
    · have hge : goal = σ1 := by rw [← hrel.eq]; exact runGo_fin hfin
      obtain ⟨vt1, fx1, hrd, hfx, hkp, hfr⟩ := hrel.runs
      have P : BkPost B w gx s vt goal (.returned (.tuple #[])) wr := ⟨by rw [hge, endOf_ok hrel.why], vt1, fx1, by rw [hge]; exact hrd, hkp⟩
      clear hrel hrd hfx hkp hfr hge
      go_wp2
      first | go_end0 | (refine bodyPost_ret (results_none rfl _ _ _) rfl ?_)
      exact P

end Go.Proofs.YtnfghnolklhppaaDoor

/- The program's run: what gives up is caught here. -/
namespace Go.Proofs.YtnfghnolklhppaaDoor
open Go.RowKit

theorem catch_idle (p : Addr) (w : World) :
    CallsD Tryd.prog 27 #[.pointer (some p)] .returning w fun e u' w' => e = .returned (.tuple #[]) ∧ u' = .returning ∧ w' = w := by
  have hnil : ∀ w : World, (binOp BinOp.eql 20 .nilIface .nilIface).run Tryd.prog w = .ok (.bool true) w := fun _ => by kernel_rfl
  refine callsD_of_wpS Tryd.func27 rfl fun c₀ cs hu => ?_
  apply wpS_seq
  apply wpS_region
  simp [wpOpsS, go_sem, recoverD, hu, Tryd.ntmps27, Exit.thenS]
  refine wpS_of_wp ?_
  go_wp2
  cases c₀
  simp_all [bodyPostS, results, Tryd.results27]

theorem catch_panicking (p : Addr) (y x : Int) (w : World) (hc : w.cell? p = some (.int .i64 x)) (hz : w.frozen? p = false) (hp : p.block < w.heap.size) :
    CallsD Tryd.prog 27 #[.pointer (some p)] (.panicking [{ v := .iface 58 (.agg #[.int .i64 y]), recovered := false }]) w fun e u' w' =>
      e = .returned (.tuple #[]) ∧ u' = .panicking [{ v := .iface 58 (.agg #[.int .i64 y]), recovered := true }] ∧ w' = (w.alloc (.cells #[.int .i64 y] 58)).setCell p (.int .i64 y) := by
  have hz2 : (w.alloc (.cells #[.int .i64 y] 58)).frozen? p = false := by exact (World.frozen?_alloc_old (h := Nat.ne_of_lt hp) ..).trans hz
  have hnil : ∀ w : World, (binOp BinOp.eql 20 (.iface 58 (.agg #[.int .i64 y])) .nilIface).run Tryd.prog w = .ok (.bool false) w := fun _ => by kernel_rfl
  have hta : ∀ w : World, (Instr.typeAssert (.iface 58 (.agg #[.int .i64 y])) 20 58 true).run Tryd.prog w = .ok (.tuple #[.agg #[.int .i64 y], .bool true]) w := fun _ => by kernel_rfl
  refine callsD_of_wpS Tryd.func27 rfl fun c₀ cs hu => ?_
  apply wpS_seq
  apply wpS_region
  simp [wpOpsS, go_sem, recoverD, hu, Tryd.ntmps27, Exit.thenS]
  refine wpS_of_wp ?_
  have ht : (#[Value.pointer (some p)] ++ (Array.replicate 11 undef).setIfInBounds 3 (Value.iface 58 (Value.agg #[Value.int IntKind.i64 y])) : Array Value) = #[.pointer (some p), undef, undef, undef, .iface 58 (.agg #[.int .i64 y]), undef, undef, undef, undef, undef, undef, undef] := rfl
  rw [ht]
  clear ht
  go_wp2
  cases c₀
  simp_all [bodyPostS, results, Tryd.results27]

theorem not_text {B : Nat} {w : World} {gx : Nat} {s : ByteArray} {σ : St} {vt fx : Value} (h : Rd B w gx s σ vt fx) {g : Nat} {A : Array Value} (hg : w.heap[g]? = some (.cells A 22)) : vt.ownBlock ≠ some g := by
  intro e
  obtain ⟨_, h2⟩ := h.own
  rcases h2 with ⟨h2, _⟩ | ⟨g2, cap, cur, hv, _, hh, _⟩
  · rw [h2] at e; exact absurd e (by simp [Value.ownBlock])
  · rw [hv] at e
    have e2 : g2 = g := Option.some.inj e
    rw [e2, hg] at hh
    exact absurd hh (by simp)

def GrunPost (B : Nat) (w : World) (gx : Nat) (s : ByteArray) (vt : Value) (goal : St) (e : Ending) (w' : World) : Prop := e = .returned (.int .i64 (goal.why : Nat)) ∧ ∃ vt' fx', Rd B w' gx s goal vt' fx' ∧ Kp w w' gx vt

theorem grun_any (B gx : Nat) (s : ByteArray) (σ : St) (vt fx : Value) (w : World) (h : Rd B w gx s σ vt fx) (hB : B ≤ w.heap.size) (hs : s.size ≤ 140737488400000) (hf : Fit s σ) (hy : σ.why = 0) (hfin : σ.fin = false) (hgo : 0 < B) (hord : OrdIn w 0) (hfx : FixOk w gx vt fx) :
    Calls Tryd.prog 16 #[.pointer (some ⟨gx, 0, none⟩)] w (GrunPost B w gx s vt (runGo s (8 * s.size + 1) σ)) := by
  have hmf : ∀ (fn : Fn) (first cap : Array Value) (w : World), (Instr.makeFunc fn first cap).run Tryd.prog w = .ok (.func fn first cap) w := fun _ _ _ _ => rfl
  have hx : gx < w.heap.size := h.row.lt
  have hv0 : vt.ownBlock ≠ some 0 := fun e => by
    obtain ⟨_, h2⟩ := h.own
    rcases h2 with ⟨h2, _⟩ | ⟨g2, cap, cur, hv, hb, _⟩
    · rw [h2] at e; exact absurd e (by simp [Value.ownBlock])
    · rw [hv] at e
      have e2 : g2 = 0 := Option.some.inj e
      omega
  have hvn : vt.ownBlock ≠ some w.heap.size := fun e => by
    obtain ⟨_, h2⟩ := h.own
    rcases h2 with ⟨h2, _⟩ | ⟨g2, cap, cur, hv, hb, hh, _⟩
    · rw [h2] at e; exact absurd e (by simp [Value.ownBlock])
    · rw [hv] at e
      have e2 : g2 = w.heap.size := Option.some.inj e
      rw [e2] at hh
      simp at hh
  have h1 := h.alloc (.cells #[.int .i64 0] 22)
  have hord1 := hord.kp (Kp.alloc w (.cells #[.int .i64 0] 22) gx vt) (by have := h.le; omega) hv0
  have hfx1 := hfx.kp (Kp.alloc w (.cells #[.int .i64 0] 22) gx vt) (fun _ hg => Or.inl hg)
  generalize HG : runGo s (8 * s.size + 1) σ = τ
  go_enter_defers Tryd.func16, Tryd.ntmps16
  go_wp2_with fail
  refine (blocks_any B gx s σ vt fx _ h1 (by simp; omega) hs hf hy hfin hgo hord1 hfx1).mono ?_
  rintro e w' ⟨he, vt', fx', h', k'⟩
  have hg0 : w'.heap[w.heap.size]? = some (.cells #[.int .i64 0] 22) := (k'.block w.heap.size (by simp) (Nat.ne_of_gt hx) hvn).trans (heap_alloc_last w _)
  have hne := not_text h' hg0
  have hc : w'.cell? ⟨w.heap.size, 0, none⟩ = some (.int .i64 0) := by simp [World.cell?, hg0]
  have hz : w'.frozen? ⟨w.heap.size, 0, none⟩ = false := by simp [World.frozen?, hg0]
  have hlt : w.heap.size < w'.heap.size := by have := k'.size; simp at this; omega
  have hk : Kp w w' gx vt := (Kp.alloc w _ gx vt).trans k'
  clear hg0 k' h1 hord1 hfx1 hv0 hvn
  rw [HG] at he h'
  clear HG
  by_cases hy2 : τ.why = 0
  · rw [endOf_ok hy2] at he
    subst he
    show _
    go_wp2
    refine leaves_cons (f := 27) (args := #[.pointer (some ⟨w.heap.size, 0, none⟩)]) (by simp) (by simp [go_sem]) ?_
    refine (catch_idle ⟨w.heap.size, 0, none⟩ _).mono ?_
    rintro e u' w'' ⟨rfl, rfl, rfl⟩
    have hr := h'.setOther (Nat.ne_of_lt hx) hne 0 (.int .i64 0)
    have hk2 := hk.setNew (Nat.le_refl _) 0 (.int .i64 0)
    have hc2 : (w'.setCell ⟨w.heap.size, 0, none⟩ (.int .i64 0)).cell? ⟨w.heap.size, 0, none⟩ = some (.int .i64 0) := World.cell?_setCell_same _ _ _ hc
    simp [Leaves, settle, results, Tryd.results16, go_sem, hc2]
    exact ⟨by rw [hy2]; rfl, vt', fx', hr, hk2⟩
  · rw [endOf_bad hy2] at he
    subst he
    show bodyPostD _ _ _ _ _ _
    refine leaves_cons (f := 27) (args := #[.pointer (some ⟨w.heap.size, 0, none⟩)]) (by simp) (by simp [go_sem]) ?_
    refine (catch_panicking ⟨w.heap.size, 0, none⟩ (τ.why : Nat) 0 _ hc hz hlt).mono ?_
    rintro e u' w'' ⟨rfl, rfl, rfl⟩
    have hr := (h'.alloc (.cells #[.int .i64 (τ.why : Nat)] 58)).setOther (Nat.ne_of_lt hx) hne 0 (.int .i64 (τ.why : Nat))
    have hk2 := (hk.trans (Kp.alloc w' (.cells #[.int .i64 (τ.why : Nat)] 58) gx vt)).setNew (Nat.le_refl _) 0 (.int .i64 (τ.why : Nat))
    have hc2 : ((w'.alloc (.cells #[.int .i64 (τ.why : Nat)] 58)).setCell ⟨w.heap.size, 0, none⟩ (.int .i64 (τ.why : Nat))).cell? ⟨w.heap.size, 0, none⟩ = some (.int .i64 (τ.why : Nat)) := World.cell?_setCell_same _ _ _ ((World.cell?_alloc_lt w' _ ⟨w.heap.size, 0, none⟩ hlt).trans hc)
    simp [Leaves, settle, results, Tryd.results16, go_sem, hc2]
    exact ⟨rfl, vt', fx', hr, hk2⟩

end Go.Proofs.YtnfghnolklhppaaDoor
