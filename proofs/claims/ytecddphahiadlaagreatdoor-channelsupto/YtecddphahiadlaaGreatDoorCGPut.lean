import Derived.Test.YtecddphahiadlaaGreatDoorCPut
/- The program's reader in memory, and how a call on it ends. -/
namespace Go.Proofs.YtecddphahiadlaaGreatDoor
open Go.RowKit
/-- What else there is in the reader's block: where a reading is begun again, what is known of the block that is read, the plan of kind 1; and the block's own type, size and further cells. -/
structure Ex where
 kp : Nat
 last : Bool
 bare : Nat
 pl : Value
 fx : Value
 ty : TypeId
 n : Nat
 more : Nat → Value
/-- The cells of a reader. -/
def rdCell (s : ByteArray) (p : Nat) (vt : Value) (x : Ex) (i : Nat) : Value :=
 if i = 0 then .string s else if i = 1 then .int .i64 (p / 8 : Nat) else if i = 2 then .int .i64 (p % 8 : Nat) else if i = 3 then .int .i64 (x.kp / 8 : Nat) else if i = 4 then .int .i64 (x.kp % 8 : Nat)
 else if i = 5 then vt else if i = 6 then .bool x.last else if i = 7 then .int .i64 (x.bare : Nat) else if i = 8 then x.pl else if i = 9 then x.fx else x.more i
/-- The reader's block: σ.pos is told by two numbers. -/
structure Rd (B : Nat) (w : World) (gx : Nat) (s : ByteArray) (σ : St) (vt : Value) (fx : Ex) : Prop where
 le : B ≤ gx
 big : 10 ≤ fx.n
 row : w.rowIs gx fx.ty fx.n (rdCell s σ.pos vt fx)
 own : w.ownsRow B 5 1 vt σ.text.length (byteVals σ.text)
 ne : vt.ownBlock ≠ some gx
namespace Rd
variable {B : Nat} {w : World} {gx : Nat} {s : ByteArray} {σ : St} {vt : Value} {fx : Ex}
theorem cel (h : Rd B w gx s σ vt fx) (i : Nat) (hi : i < fx.n) : w.cell? ⟨gx, i, none⟩ = some (rdCell s σ.pos vt fx i) := h.row.cell hi
theorem c0 (h : Rd B w gx s σ vt fx) : w.cell? ⟨gx, 0, none⟩ = some (.string s) := h.cel 0 (by have := h.big; omega)
theorem c1 (h : Rd B w gx s σ vt fx) : w.cell? ⟨gx, 1, none⟩ = some (.int .i64 (σ.pos / 8 : Nat)) := h.cel 1 (by have := h.big; omega)
theorem c2 (h : Rd B w gx s σ vt fx) : w.cell? ⟨gx, 2, none⟩ = some (.int .i64 (σ.pos % 8 : Nat)) := h.cel 2 (by have := h.big; omega)
theorem ck1 (h : Rd B w gx s σ vt fx) : w.cell? ⟨gx, 3, none⟩ = some (.int .i64 (fx.kp / 8 : Nat)) := h.cel 3 (by have := h.big; omega)
theorem ck2 (h : Rd B w gx s σ vt fx) : w.cell? ⟨gx, 4, none⟩ = some (.int .i64 (fx.kp % 8 : Nat)) := h.cel 4 (by have := h.big; omega)
theorem c3 (h : Rd B w gx s σ vt fx) : w.cell? ⟨gx, 5, none⟩ = some vt := h.cel 5 (by have := h.big; omega)
theorem cl (h : Rd B w gx s σ vt fx) : w.cell? ⟨gx, 6, none⟩ = some (.bool fx.last) := h.cel 6 (by have := h.big; omega)
theorem cb (h : Rd B w gx s σ vt fx) : w.cell? ⟨gx, 7, none⟩ = some (.int .i64 (fx.bare : Nat)) := h.cel 7 (by have := h.big; omega)
theorem cp (h : Rd B w gx s σ vt fx) : w.cell? ⟨gx, 8, none⟩ = some fx.pl := h.cel 8 (by have := h.big; omega)
theorem c4 (h : Rd B w gx s σ vt fx) : w.cell? ⟨gx, 9, none⟩ = some fx.fx := h.cel 9 (by have := h.big; omega)
theorem fz (h : Rd B w gx s σ vt fx) (i : Nat) : w.frozen? ⟨gx, i, none⟩ = false := h.row.frozen i
theorem drewN (h : Rd B w gx s σ vt fx) (q : Nat) : Rd B (w.drewN q) gx s σ vt fx := ⟨h.le, h.big, h.row.of_block rfl, h.own, h.ne⟩
theorem drew (h : Rd B w gx s σ vt fx) : Rd B w.drew gx s σ vt fx := ⟨h.le, h.big, h.row.of_block rfl, h.own, h.ne⟩
theorem congr {σ2 : St} (h : Rd B w gx s σ vt fx) (hp : σ2.pos = σ.pos) (ht : σ2.text = σ.text) : Rd B w gx s σ2 vt fx := by
 refine ⟨h.le, h.big, ?_, by rw [ht]; exact h.own, h.ne⟩
 rw [hp]; exact h.row
end Rd
theorem own_setCell {B : Nat} {w : World} {gx : Nat} {σ : St} {vt : Value} (h : w.ownsRow B 5 1 vt σ.text.length (byteVals σ.text)) (hn : vt.ownBlock ≠ some gx) (i : Nat) (v : Value) :
 (w.setCell ⟨gx, i, none⟩ v).ownsRow B 5 1 vt σ.text.length (byteVals σ.text) := by
 obtain ⟨h1, h2⟩ := h
 refine ⟨h1, ?_⟩
 rcases h2 with h2 | ⟨g, cap, cur, hv, hg, hh, r⟩
 · exact Or.inl h2
 · exact Or.inr ⟨g, cap, cur, hv, hg, by rw [Below.heap_setCell _ _ _ _ (by intro e; exact hn (by rw [hv]; show some g = some gx; rw [e]))]; exact hh, r⟩
/-- One cell of the reader's is laid anew: what it tells then. -/
theorem Rd.setC {B : Nat} {w : World} {gx : Nat} {s : ByteArray} {σ : St} {vt : Value} {fx : Ex} (h : Rd B w gx s σ vt fx) (k : Nat) (v : Value) {p : Nat} {fx2 : Ex} (hty : fx2.ty = fx.ty) (hn : fx2.n = fx.n)
 (he : ∀ i, (if i = k then v else rdCell s σ.pos vt fx i) = rdCell s p vt fx2 i) : Rd B (w.setCell ⟨gx, k, none⟩ v) gx s { σ with pos := p } vt fx2 :=
 ⟨h.le, by rw [hn]; exact h.big, by rw [hty, hn]; exact (h.row.set k v).congr (fun i _ => he i), own_setCell h.own h.ne _ _, h.ne⟩
/-- One of the two numbers is laid anew. -/
theorem Rd.setLow {B : Nat} {w : World} {gx : Nat} {s : ByteArray} {σ : St} {vt : Value} {fx : Ex} (h : Rd B w gx s σ vt fx) (p l : Nat) (hl : l < 8) (hp : p = 8 * (σ.pos / 8) + l) : Rd B (w.setCell ⟨gx, 2, none⟩ (.int .i64 (l : Nat))) gx s { σ with pos := p } vt fx := by
 refine h.setC 2 _ rfl rfl (fun i => ?_)
 have e1 : p / 8 = σ.pos / 8 := by omega
 have e2 : p % 8 = l := by omega
 unfold rdCell
 rw [e1, e2]
 by_cases e : i = 2
 · subst e; rfl
 · simp only [if_neg e]
/-- Both numbers are laid anew. -/
theorem Rd.setBoth {B : Nat} {w : World} {gx : Nat} {s : ByteArray} {σ : St} {vt : Value} {fx : Ex} (h : Rd B w gx s σ vt fx) (a l : Nat) (hl : l < 8) : Rd B ((w.setCell ⟨gx, 1, none⟩ (.int .i64 (a : Nat))).setCell ⟨gx, 2, none⟩ (.int .i64 (l : Nat))) gx s { σ with pos := 8 * a + l } vt fx := by
 have h1 : Rd B (w.setCell ⟨gx, 1, none⟩ (.int .i64 (a : Nat))) gx s { σ with pos := 8 * a + σ.pos % 8 } vt fx := by
  refine h.setC 1 _ rfl rfl (fun i => ?_)
  have e1 : (8 * a + σ.pos % 8) / 8 = a := by omega
  have e2 : (8 * a + σ.pos % 8) % 8 = σ.pos % 8 := by omega
  unfold rdCell
  rw [e1, e2]
  by_cases e : i = 1
  · subst e; rfl
  · simp only [if_neg e]
 have h2 := h1.setLow (8 * a + l) l hl (by show 8 * a + l = 8 * ((8 * a + σ.pos % 8) / 8) + l; omega)
 exact h2
/-- A call on the reader: its state behind it, and the rest of memory. -/
def RunsG (B : Nat) (w w' : World) (gx : Nat) (s : ByteArray) (vt : Value) (fx : Ex) (σ : St) : Prop :=
 ∃ vt', Rd B w' gx s σ vt' fx ∧ Kp w w' gx vt ∧ ∀ g, vt'.ownBlock = some g → vt.ownBlock = some g ∨ w.heap.size ≤ g
theorem RunsG.refl {B : Nat} {w : World} {gx : Nat} {s : ByteArray} {vt : Value} {fx : Ex} {σ : St} (h : Rd B w gx s σ vt fx) : RunsG B w w gx s vt fx σ :=
 ⟨vt, h, ⟨rfl, rfl, rfl, Nat.le_refl _, fun _ _ _ _ => rfl⟩, fun _ hg => Or.inl hg⟩
theorem RunsG.trans {B : Nat} {w w1 w2 : World} {gx : Nat} {s : ByteArray} {vt vt1 : Value} {fx : Ex} {σ2 : St} (k1 : Kp w w1 gx vt) (f1 : ∀ g, vt1.ownBlock = some g → vt.ownBlock = some g ∨ w.heap.size ≤ g) (h2 : RunsG B w1 w2 gx s vt1 fx σ2) : RunsG B w w2 gx s vt fx σ2 := by
 obtain ⟨vt2, s2, k2, f2⟩ := h2
 refine ⟨vt2, s2, ⟨k2.os.trans k1.os, k2.tape.trans k1.tape, k2.output.trans k1.output, Nat.le_trans k1.size k2.size, fun b hb hx hv => ?_⟩, fun g hg => ?_⟩
 ·
  rw [k2.block b (Nat.lt_of_lt_of_le hb k1.size) hx (fun e => ?_), k1.block b hb hx hv]
  rcases f1 b e with e' | e'
  · exact hv e'
  · omega
 ·
  rcases f2 g hg with e | e
  · exact f1 g e
  · exact Or.inr (Nat.le_trans k1.size e)
/-- How a call ends that gives up by a panic of its own, if there is why. -/
def endOf (y : Nat) (v : Value) : Ending := if y = 0 then .returned v else .panicked [{ v := .iface 168 (.agg #[.int .i64 (y : Nat)]), recovered := false }]
theorem endOf_ok {y : Nat} (h : y = 0) (v : Value) : endOf y v = .returned v := by unfold endOf; rw [if_pos h]
theorem endOf_bad {y : Nat} (h : ¬ y = 0) (v : Value) : endOf y v = .panicked [{ v := .iface 168 (.agg #[.int .i64 (y : Nat)]), recovered := false }] := by unfold endOf; rw [if_neg h]
/- The program's wrong, whole, bit. -/
theorem wrong_any (w : World) : Calls Tryz.prog 138 #[] w fun e w' => e = endOf 1 .nilFunc ∧ w' = w := by
 go_enter Tryz.func138, Tryz.ntmps138
 go_wp2
 exact ⟨rfl, rfl, rfl⟩
/-- Up to the next whole byte. -/
def wholeF (σ : St) : St := { σ with pos := 8 * ((σ.pos + 7) / 8) }
set_option maxHeartbeats 400000 in
theorem whole_any (B gx : Nat) (s : ByteArray) (σ : St) (vt : Value) (fx : Ex) (w : World) (h : Rd B w gx s σ vt fx) (hs : σ.pos ≤ 1125899907200000) :
 Calls Tryz.prog 83 #[.pointer (some ⟨gx, 0, none⟩)] w fun e w' => e = .returned (.tuple #[]) ∧ Rd B w' gx s (wholeF σ) vt fx ∧ Kp w w' gx vt := by
 have c1 := h.c1
 have c2 := h.c2
 have f1 := h.fz 1
 have f2 := h.fz 2
 obtain ⟨a, ha⟩ : ∃ a, a = σ.pos / 8 := ⟨_, rfl⟩
 obtain ⟨l, hl⟩ : ∃ l, l = σ.pos % 8 := ⟨_, rfl⟩
 rw [← ha] at c1
 rw [← hl] at c2
 have hab : a ≤ 1125899907200000 := by omega
 by_cases hz : 0 < l
 ·
  have d1 : decide (0 < l) = true := by rw [decide_eq_true_iff]; omega
  have R := h.setBoth (a + 1) 0 (by omega)
  have HW : Hid (wholeF σ = { σ with pos := 8 * (a + 1) + 0 }) := by
   show wholeF σ = _
   unfold wholeF
   have : 8 * ((σ.pos + 7) / 8) = 8 * (a + 1) + 0 := by omega
   rw [this]
  clear ha hl
  go_enter Tryz.func83, Tryz.ntmps83
  go_wp2
  go_end0
  exact ⟨rfl, by rw [HW.out]; exact R, ((Kp.refl _ _ _).set 1 _).set 2 _⟩
 ·
  have d1 : decide (0 < l) = false := by rw [decide_eq_false_iff_not]; omega
  have HW : Hid (wholeF σ = σ) := by
   show wholeF σ = _
   unfold wholeF
   have : 8 * ((σ.pos + 7) / 8) = σ.pos := by omega
   rw [this]
  clear ha hl
  go_enter Tryz.func83, Tryz.ntmps83
  go_wp2
  go_end0
  exact ⟨rfl, by rw [HW.out]; exact h, Kp.refl _ _ _⟩
theorem Rd.setThree {B : Nat} {w : World} {gx : Nat} {s : ByteArray} {σ : St} {vt : Value} {fx : Ex} (h : Rd B w gx s σ vt fx) (a : Nat) (v : Value) : Rd B (((w.setCell ⟨gx, 2, none⟩ v).setCell ⟨gx, 1, none⟩ (.int .i64 (a : Nat))).setCell ⟨gx, 2, none⟩ (.int .i64 0)) gx s { σ with pos := 8 * a } vt fx := by
 refine ⟨h.le, h.big, (((h.row.set 2 _).set 1 _).set 2 _).congr (fun i _ => ?_), own_setCell (σ := σ) (own_setCell (σ := σ) (own_setCell h.own h.ne _ _) h.ne _ _) h.ne _ _, h.ne⟩
 have e1 : (8 * a) / 8 = a := by omega
 have e2 : (8 * a) % 8 = 0 := by omega
 show (if i = 2 then _ else if i = 1 then _ else if i = 2 then _ else rdCell s σ.pos vt fx i) = rdCell s (8 * a) vt fx i
 unfold rdCell
 rw [e1, e2]
 by_cases e : i = 2
 · subst e; rfl
 ·
  by_cases e' : i = 1
  · subst e'; rfl
  · simp only [if_neg e, if_neg e']
set_option maxHeartbeats 400000 in
theorem gbit_any (B gx : Nat) (s : ByteArray) (σ : St) (vt : Value) (fx : Ex) (w : World) (h : Rd B w gx s σ vt fx) (hs : s.size ≤ 140737488400000) (hp : σ.pos ≤ 8 * s.size) (hy : σ.why = 0) :
 Calls Tryz.prog 136 #[.pointer (some ⟨gx, 0, none⟩)] w fun e w' => e = endOf (bitF s σ).2.why (.int .i64 ((bitF s σ).1 : Int)) ∧ Rd B w' gx s (bitF s σ).2 vt fx ∧ Kp w w' gx vt := by
 have c0 := h.c0
 have c1 := h.c1
 have c2 := h.c2
 have f1 := h.fz 1
 have f2 := h.fz 2
 obtain ⟨a, ha⟩ : ∃ a, a = σ.pos / 8 := ⟨_, rfl⟩
 obtain ⟨l, hl⟩ : ∃ l, l = σ.pos % 8 := ⟨_, rfl⟩
 have hl8 : l < 8 := by omega
 rw [← ha] at c1
 rw [← hl] at c2
 by_cases hlt : σ.pos < 8 * s.size
 ·
  have e1 : ((a : Int) == (s.size : Int)) = false := by rw [beq_eq_false_iff_ne]; omega
  have HF : Hid (bitF s σ = (bitOf s σ.pos, { σ with pos := σ.pos + 1 })) := bitF_go hy hlt
  have hix := index_run s a (a : Int) rfl (by omega)
  obtain ⟨c, hc⟩ : ∃ c, c = (s.data.toList.getD a 0).toNat := ⟨_, rfl⟩
  rw [← hc] at hix
  have HB : Hid (bitOf s σ.pos = c / 2 ^ l % 2) := by
   show _ = _
   unfold bitOf
   rw [← ha, ← hl, hc]
  have hcb : c < 256 := by rw [hc]; exact UInt8.toNat_lt _
  have hab : a ≤ 140737488400000 := by omega
  have HV : Hid (bits BinOp.and IntKind.i64 ((c : Int) / 2 ^ l) 1 = ((c / 2 ^ l % 2 : Nat) : Int)) := by
   show _ = _
   have h1 : ((c : Int) / 2 ^ l) = ((c / 2 ^ l : Nat) : Int) := by simp
   have h2 : c / 2 ^ l ≤ c := Nat.div_le_self _ _
   rw [h1, and_one_i64 _ (by omega)]
  by_cases hl7 : l = 7
  ·
   subst hl7
   have HP : Hid (σ.pos + 1 = 8 * (a + 1)) := by show _ = _; omega
   have R := fun v q => (h.drewN q).setThree (a + 1) v
   clear ha hl hc hlt hp
   go_enter Tryz.func136, Tryz.ntmps136
   go_wp2
   go_big_quiet (fail)
   go_wp2
   go_big_quiet (fail)
   go_wp2
   go_end0
   go_wp2
   go_ret
   refine ⟨?_, ?_, ((((Kp.refl _ _ _).drewN _).set 2 _).set 1 _).set 2 _⟩
   ·
    rw [HF.out, endOf_ok hy]
    exact ret_int (by rw [HB.out]; exact HV.out)
   ·
    rw [HF.out, HP.out]
    exact R _ _
  ·
   have hl6 : l + 1 < 8 := by omega
   have e8 : ((l : Int) + 1 == 8) = false := by rw [beq_eq_false_iff_ne]; omega
   have R := fun q => (h.drewN q).setLow (σ.pos + 1) (l + 1) hl6 (by omega)
   clear ha hl hc hlt hp hl7
   go_enter Tryz.func136, Tryz.ntmps136
   go_wp2
   go_big_quiet (fail)
   go_wp2
   go_big_quiet (fail)
   go_wp2
   go_ret
   refine ⟨?_, ?_, ((Kp.refl _ _ _).drewN _).set 2 _⟩
   ·
    rw [HF.out, endOf_ok hy]
    exact ret_int (by rw [HB.out]; exact HV.out)
   ·
    rw [HF.out]
    exact R _
 ·
  have e1 : ((a : Int) == (s.size : Int)) = true := by rw [beq_iff_eq]; omega
  have HF : Hid (bitF s σ = (0, { σ with why := 2 })) := bitF_end hy (by omega)
  clear ha hl hlt hp
  go_enter Tryz.func136, Tryz.ntmps136
  go_wp2
  go_big_quiet (fail)
  go_wp2
  rw [HF.out]
  exact ⟨rfl, rfl, (h.drewN nq).congr rfl rfl, (Kp.refl _ _ _).drewN nq⟩
/- The program's number. -/
theorem numF_dead {s : ByteArray} : ∀ (n : Nat) {σ : St}, σ.why ≠ 0 → (numF s n σ).2 = σ
 | 0, _, _ => rfl
 |
  n + 1, σ, h => by
  simp only [numF]
  rw [bitF_dead h]
  exact numF_dead n h
theorem or_step (v b i : Nat) (hv : v < 2 ^ i) (hb : b < 2) (hi : i < 16) : bits BinOp.or IntKind.i64 (v : Int) ((b * 2 ^ i : Nat) : Int) = ((v + b * 2 ^ i : Nat) : Int) := by
 have hp : 2 ^ i ≤ 2 ^ 15 := Nat.pow_le_pow_right (by omega) (by omega)
 have h15 : (2 : Nat) ^ 15 = 32768 := rfl
 have hm : b * 2 ^ i ≤ 1 * 2 ^ i := Nat.mul_le_mul_right _ (by omega)
 have h1 : (BitVec.ofInt 64 (v : Int)).toNat = v := by
  rw [BitVec.ofInt_natCast, BitVec.toNat_ofNat]; exact Nat.mod_eq_of_lt (by omega)
 have h2 : (BitVec.ofInt 64 ((b * 2 ^ i : Nat) : Int)).toNat = b * 2 ^ i := by
  rw [BitVec.ofInt_natCast, BitVec.toNat_ofNat]; exact Nat.mod_eq_of_lt (by omega)
 show IntKind.i64.wrap ((BitVec.ofInt 64 (v : Int) ||| BitVec.ofInt 64 ((b * 2 ^ i : Nat) : Int)).toNat : Int) = _
 have h3 : v ||| b * 2 ^ i = v + b * 2 ^ i := by
  rw [Nat.or_comm, Nat.mul_comm, ← Nat.two_pow_add_eq_or_of_lt hv, Nat.add_comm]
 rw [BitVec.toNat_or, h1, h2, h3, IntKind.wrap_i64]
 omega
theorem or_walk (v b i : Nat) (hv : v < 2 ^ i) (hb : b < 2) (hi : i < 16) : bits BinOp.or IntKind.i64 (v : Int) (wrap64 ((b : Int) * 2 ^ i)) = ((v + b * 2 ^ i : Nat) : Int) := by
 have hp : 2 ^ i ≤ 2 ^ 15 := Nat.pow_le_pow_right (by omega) (by omega)
 have h15 : (2 : Nat) ^ 15 = 32768 := rfl
 have hm : b * 2 ^ i ≤ 1 * 2 ^ i := Nat.mul_le_mul_right _ (by omega)
 have e : ((b : Int) * 2 ^ i) = ((b * 2 ^ i : Nat) : Int) := by simp
 rw [e, IntWalk.wrap64_in _ ⟨by omega, by omega⟩]
 exact or_step v b i hv hb hi
/-- The state of number's loop: i bits are read, r still to come. -/
structure GNumRel (B : Nat) (w wr : World) (gx : Nat) (s : ByteArray) (vt : Value) (fx : Ex) (σ0 : St) (n i r v : Nat) (σ : St) : Prop where
 rd : Rd B wr gx s σ vt fx
 kp : Kp w wr gx vt
 pos : σ.pos ≤ 8 * s.size
 why : σ.why = 0
 sum : i + r = n
 low : v < 2 ^ i
 tot : v + 2 ^ i * (numF s r σ).1 = (numF s n σ0).1
 fin : (numF s r σ).2 = (numF s n σ0).2
theorem gnum_step {B : Nat} {w wr w' : World} {gx : Nat} {s : ByteArray} {vt : Value} {fx : Ex} {σ0 : St} {n i r v : Nat} {σ : St} (h : GNumRel B w wr gx s vt fx σ0 n i (r + 1) v σ) (hs : Rd B w' gx s (bitF s σ).2 vt fx) (hk : Kp wr w' gx vt) (hy : (bitF s σ).2.why = 0) :
 GNumRel B w w' gx s vt fx σ0 n (i + 1) r (v + (bitF s σ).1 * 2 ^ i) (bitF s σ).2 := by
 have hb := bitF_lt s σ
 have hl := h.low
 have hm := Nat.mul_le_mul_right (2 ^ i) (show (bitF s σ).1 ≤ 1 by omega)
 refine ⟨hs, h.kp.trans hk, bitF_pos h.pos, hy, by have := h.sum; omega, by rw [Nat.pow_succ]; omega, ?_, h.fin⟩
 rw [← h.tot]
 simp only [numF]
 generalize (numF s r (bitF s σ).2).1 = x
 generalize (bitF s σ).1 = b
 rw [Nat.pow_succ, Nat.mul_add, Nat.mul_comm b, Nat.mul_assoc, Nat.add_assoc]
theorem gnum_stop {B : Nat} {w wr : World} {gx : Nat} {s : ByteArray} {vt : Value} {fx : Ex} {σ0 : St} {n i r v : Nat} {σ : St} (h : GNumRel B w wr gx s vt fx σ0 n i (r + 1) v σ) (hy : ¬ (bitF s σ).2.why = 0) : (numF s n σ0).2 = (bitF s σ).2 := by
 rw [← h.fin]
 simp only [numF]
 exact numF_dead r hy
set_option maxHeartbeats 400000 in
theorem gnumber_any (B gx n : Nat) (s : ByteArray) (σ : St) (vt : Value) (fx : Ex) (w : World) (h : Rd B w gx s σ vt fx) (hs : s.size ≤ 140737488400000) (hp : σ.pos ≤ 8 * s.size) (hy : σ.why = 0) (hn : n ≤ 16) :
 Calls Tryz.prog 122 #[.pointer (some ⟨gx, 0, none⟩), .int .i64 (n : Int)] w fun e w' => e = endOf (numF s n σ).2.why (.int .i64 ((numF s n σ).1 : Int)) ∧ Rd B w' gx s (numF s n σ).2 vt fx ∧ Kp w w' gx vt := by
 have R0 : GNumRel B w w gx s vt fx σ n 0 n 0 σ := ⟨h, Kp.refl _ _ _, hp, hy, by omega, by omega, by omega, rfl⟩
 clear h hp hy
 go_enter Tryz.func122, Tryz.ntmps122
 go_wp2
 go_loopw [5, 6, 8] (fun x _ k wr => ∃ (i r v : Nat) (σ1 : St), k = .int .i64 (i : Nat) ∧ x = .int .i64 (v : Nat) ∧ GNumRel B w wr gx s vt fx σ n i r v σ1) (fun _ _ k _ => n - (intOf k).toNat)
 case atStart => exact ⟨0, n, 0, σ, rfl, rfl, R0⟩
 case round =>
  obtain ⟨i, r, v, σ1, rfl, rfl, hrel⟩ := hrel
  clear R0
  have hsum := hrel.sum
  by_cases h0 : 0 < r
  ·
   obtain ⟨r', rfl⟩ : ∃ r', r = r' + 1 := ⟨r - 1, by omega⟩
   have hin : i < n := by omega
   have hi16 : i < 16 := by omega
   go_wp2_with fail
   refine (gbit_any B gx s σ1 vt fx _ hrel.rd hs hrel.pos hrel.why).mono ?_
   rintro e w' ⟨rfl, hs', hk'⟩
   by_cases hyb : (bitF s σ1).2.why = 0
   ·
    rw [endOf_ok hyb]
    have R := gnum_step hrel hs' hk' hyb
    have HO : Hid (_) := or_walk v (bitF s σ1).1 i hrel.low (bitF_lt s σ1) hi16
    clear hrel hs' hk' hyb
    generalize bitF s σ1 = bb at R HO ⊢
    go_wp2
    go_roundw
    case rel => exact ⟨i + 1, r', _, _, by go_num, by rw [HO.out], R⟩
    case measure => simp [intOf]; omega
   ·
    rw [endOf_bad hyb]
    have hst := gnum_stop hrel hyb
    have hk := hrel.kp.trans hk'
    clear hrel
    go_wp2
    rw [hst, endOf_bad hyb]
    exact ⟨rfl, rfl, hs', hk⟩
  ·
   obtain rfl : r = 0 := by omega
   obtain rfl : i = n := by omega
   have htot := hrel.tot
   have hfin := hrel.fin
   simp only [numF, Nat.mul_zero, Nat.add_zero] at htot hfin
   have H1 : Hid (v = (numF s i σ).1) := htot
   have hrd := hrel.rd
   have hy := hrel.why
   rw [hfin] at hrd hy
   have hkp := hrel.kp
   clear htot hfin hrel
   go_wp2
   go_ret
   rw [endOf_ok hy]
   exact ⟨ret_int (by rw [H1.out]), hrd, hkp⟩
/- The program's fits, put. -/
theorem rd_text {B : Nat} {w : World} {gx : Nat} {s : ByteArray} {σ : St} {vt : Value} {fx : Ex} (h : Rd B w gx s σ vt fx) : ∃ ao cap, vt = .slice ao σ.text.length cap := by
 obtain ⟨_, q⟩ := h.own
 rcases q with ⟨q, q0⟩ | ⟨g, cap, cur, q, _⟩
 · exact ⟨none, 0, by rw [q, q0]⟩
 · exact ⟨_, _, q⟩
/-- Is there room for n bytes more? -/
def roomY (σ : St) (n : Nat) : Nat := if 5000 < σ.text.length + n then 3 else 0
set_option maxHeartbeats 400000 in
theorem fits_any (B gx n : Nat) (s : ByteArray) (σ : St) (vt : Value) (fx : Ex) (w : World) (h : Rd B w gx s σ vt fx) (ht : σ.text.length ≤ 5000) :
 Calls Tryz.prog 135 #[.pointer (some ⟨gx, 0, none⟩), .int .i64 (n : Int)] w fun e w' => e = endOf (roomY σ n) (.tuple #[]) ∧ w' = w := by
 obtain ⟨ao, cap, hvt⟩ := rd_text h
 have c3 := h.c3
 rw [hvt] at c3
 have HY : Hid (roomY σ n = if 5000 < σ.text.length + n then 3 else 0) := rfl
 clear hvt h
 generalize roomY σ n = y at HY ⊢
 generalize σ.text.length = t at c3 ht HY
 by_cases hl : 5000 < t + n
 ·
  have d1 : decide (5000 - (t : Int) < (n : Int)) = true := by rw [decide_eq_true_iff]; omega
  have HF : Hid (y = 3) := by show y = 3; rw [HY.out, if_pos hl]
  clear HY hl
  go_enter Tryz.func135, Tryz.ntmps135
  go_wp2
  rw [HF.out]
  exact ⟨rfl, rfl, rfl⟩
 ·
  have d1 : decide (5000 - (t : Int) < (n : Int)) = false := by rw [decide_eq_false_iff_not]; omega
  have HF : Hid (y = 0) := by show y = 0; rw [HY.out, if_neg hl]
  clear HY hl
  go_enter Tryz.func135, Tryz.ntmps135
  go_wp2
  go_end0
  rw [HF.out]
  exact ⟨rfl, rfl⟩
/-- The text with one byte more. -/
theorem rd_more {B : Nat} {w w2 : World} {gx : Nat} {s : ByteArray} {σ : St} {vt : Value} {fx : Ex} {o : Obj} {c : UInt8} {g' cap' : Nat} (h : Rd B w gx s σ vt fx)
 (ho : w2.ownsRow B 5 1 (.slice (some ⟨g', 0, none⟩) (σ.text.length + 1) cap') (σ.text.length + 1) (byteVals σ.text ++ [.int .u8 (c.toNat : Int)])) (hd : w.heap.size + 1 ≤ g' ∨ vt.ownBlock = some g') (hg : (w.alloc o).grownBy w2 (some g')) :
 w2.cell? ⟨gx, 5, none⟩ = some vt ∧ w2.frozen? ⟨gx, 5, none⟩ = false ∧
 RunsG B w (w2.setCell ⟨gx, 5, none⟩ (.slice (some ⟨g', 0, none⟩) (σ.text.length + 1) cap')) gx s vt fx { σ with text := σ.text ++ [c] } := by
 have hgl := h.row.lt
 have hne : gx ≠ g' := by
  intro e
  subst e
  rcases hd with hd | hd
  · omega
  · exact h.ne hd
 have hsz : (w.alloc o).heap.size = w.heap.size + 1 := by simp
 have hs2 := hg.size
 have blk : ∀ b, b < w.heap.size → b ≠ g' → w2.heap[b]? = w.heap[b]? := fun b hb hbn => (hg.block b (by omega) (by intro e; exact hbn (Option.some.inj e))).trans (Below.heap_alloc w o b hb)
 have hrow := h.row.of_block (blk gx hgl hne)
 refine ⟨hrow.cell (i := 5) (by have := h.big; omega), hrow.frozen 5, .slice (some ⟨g', 0, none⟩) (σ.text.length + 1) cap', ⟨h.le, h.big, ?_, ?_, ?_⟩, ⟨hg.os, hg.tape, hg.output, by simp [World.setCell]; omega, fun b hb hx hv => ?_⟩, ?_⟩
 ·
  exact (hrow.set 5 _).congr (fun i _ => by
   show (if i = 5 then _ else rdCell s σ.pos vt fx i) = rdCell s σ.pos _ fx i
   unfold rdCell
   by_cases e : i = 5
   · subst e; rfl
   · simp only [if_neg e])
 ·
  have e : (σ.text ++ [c]).length = σ.text.length + 1 := by simp
  show World.ownsRow _ B 5 1 _ (σ.text ++ [c]).length (byteVals (σ.text ++ [c]))
  rw [e, byteVals_snoc]
  obtain ⟨q1, q2⟩ := ho
  refine ⟨q1, ?_⟩
  rcases q2 with ⟨q2, _⟩ | ⟨g, cap, cur, hv, hb, hh, r⟩
  · simp at q2
  ·
   have e1 : g' = g := by simp at hv; exact hv.1
   subst e1
   exact Or.inr ⟨g', cap, cur, hv, hb, (Below.heap_setCell _ _ _ _ (fun e => hne e.symm)).trans hh, r⟩
 ·
  intro e
  exact hne (Option.some.inj e).symm
 ·
  rw [Below.heap_setCell _ _ _ _ hx]
  refine blk b hb (fun e => ?_)
  subst e
  rcases hd with hd | hd
  · omega
  · exact hv hd
 ·
  intro g hgg
  have e : g' = g := Option.some.inj hgg
  subst e
  rcases hd with hd | hd
  · exact Or.inr (by omega)
  · exact Or.inl hd
set_option maxHeartbeats 400000 in
theorem gput_any (B gx : Nat) (s : ByteArray) (σ : St) (vt : Value) (fx : Ex) (c : UInt8) (w : World) (h : Rd B w gx s σ vt fx) (hB : B ≤ w.heap.size) (ht : σ.text.length ≤ 5000) (hy : σ.why = 0) :
 Calls Tryz.prog 121 #[.pointer (some ⟨gx, 0, none⟩), .int .u8 (c.toNat : Int)] w fun e w' => e = endOf (putF σ c).why (.tuple #[]) ∧ RunsG B w w' gx s vt fx (putF σ c) := by
 obtain ⟨ao, cap, hvt⟩ := rd_text h
 have c3 := h.c3
 have f3 := h.fz 5
 by_cases hl : σ.text.length = 5000
 ·
  have HF : Hid (putF σ c = { σ with why := 3 }) := by show putF σ c = _; unfold putF; rw [if_neg (by omega), if_pos hl]
  have HR : Hid (roomY σ 1 = 3) := by show roomY σ 1 = 3; unfold roomY; rw [if_pos (by omega)]
  clear hvt c3 f3 hl
  go_enter Tryz.func121, Tryz.ntmps121
  go_wp2_with fail
  refine (fits_any B gx 1 s σ vt fx _ h ht).mono ?_
  rintro e w' ⟨rfl, rfl⟩
  rw [HR.out, endOf_bad (by omega)]
  go_wp2
  rw [HF.out]
  exact ⟨rfl, rfl, RunsG.refl (h.congr rfl rfl)⟩
 ·
  have HF : Hid (putF σ c = { σ with text := σ.text ++ [c] }) := by show putF σ c = _; unfold putF; rw [if_neg (by omega), if_neg hl]
  have HR : Hid (roomY σ 1 = 0) := by show roomY σ 1 = 0; unfold roomY; rw [if_neg (by omega)]
  have hown := h.own
  rw [hvt] at c3 hown
  obtain ⟨n, hn⟩ : ∃ n, n = σ.text.length := ⟨_, rfl⟩
  have ht2 := ht
  rw [← hn] at c3 hown ht2
  have HN : Hid (n = σ.text.length) := hn
  clear hn hl
  go_enter Tryz.func121, Tryz.ntmps121
  go_wp2_with fail
  refine (fits_any B gx 1 s σ vt fx _ h ht).mono ?_
  rintro e w' ⟨rfl, rfl⟩
  rw [HR.out, endOf_ok rfl]
  clear ht
  go_wp2_with (first | (at_builtin; refine wpList_append1s w' rfl (.tmp 10) (.tmp 12) 80 rfl B 5 (.int .u8 0) 1 Tryz.underlying80 Tryz.info5 rfl (.slice ao n cap) n _ (.int .u8 (c.toNat : Int)) rfl rfl w'.heap.size rfl rfl hown hB (by unfold maxLen; omega) (by omega) ?_) | fail)
  intro g' cap' w2 ho hd hg
  rw [HN.out] at ho
  have hd' : w'.heap.size + 1 ≤ g' ∨ vt.ownBlock = some g' := by rw [hvt, ← HN.out]; exact hd
  obtain ⟨k2, k3, R⟩ := rd_more h ho hd' hg
  rw [← HN.out] at R
  clear ho hd hd' hg hown hvt
  go_wp2
  go_end0
  rw [HF.out]
  exact ⟨by rw [endOf_ok hy], R⟩
end Go.Proofs.YtecddphahiadlaaGreatDoor
