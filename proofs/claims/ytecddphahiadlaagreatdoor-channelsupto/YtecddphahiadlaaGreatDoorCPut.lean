import Derived.Test.YtecddphahiadlaaGreatDoorCApp
import Derived.BigQuiet
import Derived.Deep.QuietTactic
/- The document's stream in memory, and what its small functions do: stops, bit, number. -/
namespace Go.Proofs.YtecddphahiadlaaGreatDoor
open Go.RowKit
/-- How far a stream is read: the next bit, the text, what ended it (0: nothing yet), and whether the last block is behind it. -/
structure St where
 pos : Nat
 text : List UInt8
 why : Nat
 fin : Bool
def byteVals (l : List UInt8) : List Value := l.map fun c => Value.int .u8 (c.toNat : Int)
/-- The stream's block. -/
structure Str (B : Nat) (w : World) (gx : Nat) (s : ByteArray) (σ : St) (vt : Value) : Prop where
 le : B ≤ gx
 row : w.rowIs gx 136 5 (fun i => if i = 0 then .string s else if i = 1 then .int .i64 (σ.pos : Int) else if i = 2 then vt else if i = 3 then .int .i64 (σ.why : Int) else .bool σ.fin)
 own : w.ownsRow B 5 1 vt σ.text.length (byteVals σ.text)
 ne : vt.ownBlock ≠ some gx
namespace Str
variable {B : Nat} {w : World} {gx : Nat} {s : ByteArray} {σ : St} {vt : Value}
theorem c0 (h : Str B w gx s σ vt) : w.cell? ⟨gx, 0, none⟩ = some (.string s) := by simpa using h.row.cell (i := 0) (by omega)
theorem c1 (h : Str B w gx s σ vt) : w.cell? ⟨gx, 1, none⟩ = some (.int .i64 (σ.pos : Int)) := by simpa using h.row.cell (i := 1) (by omega)
theorem c2 (h : Str B w gx s σ vt) : w.cell? ⟨gx, 2, none⟩ = some vt := by simpa using h.row.cell (i := 2) (by omega)
theorem c3 (h : Str B w gx s σ vt) : w.cell? ⟨gx, 3, none⟩ = some (.int .i64 (σ.why : Int)) := by simpa using h.row.cell (i := 3) (by omega)
theorem c4 (h : Str B w gx s σ vt) : w.cell? ⟨gx, 4, none⟩ = some (.bool σ.fin) := by simpa using h.row.cell (i := 4) (by omega)
theorem fz (h : Str B w gx s σ vt) (i : Nat) : w.frozen? ⟨gx, i, none⟩ = false := h.row.frozen i
theorem setPos (h : Str B w gx s σ vt) (p : Nat) : Str B (w.setCell ⟨gx, 1, none⟩ (.int .i64 (p : Int))) gx s { σ with pos := p } vt := by
 refine ⟨h.le, (h.row.set 1 _).congr (fun i _ => ?_), ?_, h.ne⟩
 ·
  by_cases e : i = 1
  · subst e; simp
  ·
   rw [if_neg e]
   by_cases e0 : i = 0
   · rw [if_pos e0, if_pos e0]
   · rw [if_neg e0, if_neg e0, if_neg e, if_neg e]
 ·
  obtain ⟨h1, h2⟩ := h.own
  refine ⟨h1, ?_⟩
  rcases h2 with h2 | ⟨g, cap, cur, hv, hg, hh, r⟩
  · exact Or.inl h2
  · exact Or.inr ⟨g, cap, cur, hv, hg, by rw [Below.heap_setCell _ _ _ _ (by intro e; exact h.ne (by rw [hv]; show some g = some gx; rw [e]))]; exact hh, r⟩
theorem setWhy (h : Str B w gx s σ vt) (y : Nat) : Str B (w.setCell ⟨gx, 3, none⟩ (.int .i64 (y : Int))) gx s { σ with why := y } vt := by
 refine ⟨h.le, (h.row.set 3 _).congr (fun i _ => ?_), ?_, h.ne⟩
 ·
  by_cases e : i = 3
  · subst e; simp
  ·
   rw [if_neg e]
   by_cases e0 : i = 0
   · rw [if_pos e0, if_pos e0]
   ·
    rw [if_neg e0, if_neg e0]
    by_cases e1 : i = 1
    · rw [if_pos e1, if_pos e1]
    · rw [if_neg e1, if_neg e1, if_neg e, if_neg e]
 ·
  obtain ⟨h1, h2⟩ := h.own
  refine ⟨h1, ?_⟩
  rcases h2 with h2 | ⟨g, cap, cur, hv, hg, hh, r⟩
  · exact Or.inl h2
  · exact Or.inr ⟨g, cap, cur, hv, hg, by rw [Below.heap_setCell _ _ _ _ (by intro e; exact h.ne (by rw [hv]; show some g = some gx; rw [e]))]; exact hh, r⟩
theorem drewN (h : Str B w gx s σ vt) (q : Nat) : Str B (w.drewN q) gx s σ vt := ⟨h.le, h.row.of_block rfl, h.own, h.ne⟩
end Str
/-- What a call on the stream leaves of other memory: only its block and its text's block may have turned. -/
structure Kp (w w' : World) (gx : Nat) (vt : Value) : Prop where
 os : w'.os = w.os
 tape : w'.tape = w.tape
 output : w'.output = w.output
 size : w.heap.size ≤ w'.heap.size
 block : ∀ b, b < w.heap.size → b ≠ gx → vt.ownBlock ≠ some b → w'.heap[b]? = w.heap[b]?
/-- A call on the stream: its state behind it, and the rest of memory. -/
def Runs (B : Nat) (w w' : World) (gx : Nat) (s : ByteArray) (vt : Value) (σ : St) : Prop :=
 ∃ vt', Str B w' gx s σ vt' ∧ Kp w w' gx vt ∧ ∀ g, vt'.ownBlock = some g → vt.ownBlock = some g ∨ w.heap.size ≤ g
theorem Runs.refl {B : Nat} {w : World} {gx : Nat} {s : ByteArray} {vt : Value} {σ : St} (h : Str B w gx s σ vt) : Runs B w w gx s vt σ :=
 ⟨vt, h, ⟨rfl, rfl, rfl, Nat.le_refl _, fun _ _ _ _ => rfl⟩, fun _ hg => Or.inl hg⟩
theorem Runs.trans {B : Nat} {w w1 w2 : World} {gx : Nat} {s : ByteArray} {vt vt1 : Value} {σ2 : St} (k1 : Kp w w1 gx vt) (f1 : ∀ g, vt1.ownBlock = some g → vt.ownBlock = some g ∨ w.heap.size ≤ g) (h2 : Runs B w1 w2 gx s vt1 σ2) : Runs B w w2 gx s vt σ2 := by
 obtain ⟨vt2, s2, k2, f2⟩ := h2
 refine ⟨vt2, s2, ⟨k2.os.trans k1.os, k2.tape.trans k1.tape, k2.output.trans k1.output, Nat.le_trans k1.size k2.size, fun b hb hx hv => ?_⟩, fun g hg => ?_⟩
 ·
  rw [k2.block b (Nat.lt_of_lt_of_le hb k1.size) hx (fun e => ?_), k1.block b hb hx hv]
  rcases f1 b e with e' | e'
  · exact hv e'
  · omega
 ·
  rcases f2 g hg with e | e
  · exact f1 g e
  · exact Or.inr (Nat.le_trans k1.size e)
theorem Kp.set {w w' : World} {gx : Nat} {vt : Value} (h : Kp w w' gx vt) (i : Nat) (v : Value) : Kp w (w'.setCell ⟨gx, i, none⟩ v) gx vt :=
 ⟨h.os, h.tape, h.output, by simp [World.setCell]; exact h.size, fun b hb hx hv => (Below.heap_setCell _ _ _ _ hx).trans (h.block b hb hx hv)⟩
theorem Kp.refl (w : World) (gx : Nat) (vt : Value) : Kp w w gx vt := ⟨rfl, rfl, rfl, Nat.le_refl _, fun _ _ _ _ => rfl⟩
theorem Kp.drewN {w w' : World} {gx : Nat} {vt : Value} (h : Kp w w' gx vt) (q : Nat) : Kp w (w'.drewN q) gx vt := ⟨h.os, h.tape, h.output, h.size, h.block⟩
def stopF (σ : St) (y : Nat) : St := if σ.why = 0 then { σ with why := y } else σ
set_option maxHeartbeats 400000 in
theorem stops_any (B gx y : Nat) (s : ByteArray) (σ : St) (vt : Value) (w : World) (h : Str B w gx s σ vt) :
 Calls Tryz.prog 90 #[.pointer (some ⟨gx, 0, none⟩), .int .i64 (y : Int)] w fun e w' => e = .returned (.tuple #[]) ∧ Str B w' gx s (stopF σ y) vt ∧ Kp w w' gx vt := by
 have c3 := h.c3
 have f3 := h.fz 3
 by_cases hy : σ.why = 0
 ·
  have e1 : ((σ.why : Int) == 0) = true := by rw [beq_iff_eq]; omega
  have R := h.setWhy y
  have HE : Hid (stopF σ y = { σ with why := y }) := by show stopF σ y = _; unfold stopF; rw [if_pos hy]
  clear hy
  go_enter Tryz.func90, Tryz.ntmps90
  go_wp2
  go_end0
  exact ⟨rfl, by rw [HE.out]; exact R, (Kp.refl _ _ _).set 3 _⟩
 ·
  have e1 : ((σ.why : Int) == 0) = false := by rw [beq_eq_false_iff_ne]; omega
  have HE : Hid (stopF σ y = σ) := by show stopF σ y = _; unfold stopF; rw [if_neg hy]
  clear hy
  go_enter Tryz.func90, Tryz.ntmps90
  go_wp2
  go_end0
  exact ⟨rfl, by rw [HE.out]; exact h, Kp.refl _ _ _⟩
/- The document's bit and number. -/
/-- Bit p of some bytes. -/
def bitOf (s : ByteArray) (p : Nat) : Nat := (s.data.toList.getD (p / 8) 0).toNat / 2 ^ (p % 8) % 2
def bitF (s : ByteArray) (σ : St) : Nat × St :=
 if σ.why ≠ 0 then (0, σ) else if 8 * s.size ≤ σ.pos then (0, { σ with why := 2 }) else (bitOf s σ.pos, { σ with pos := σ.pos + 1 })
theorem bitF_dead {s : ByteArray} {σ : St} (h : σ.why ≠ 0) : bitF s σ = (0, σ) := by unfold bitF; rw [if_pos h]
theorem bitF_end {s : ByteArray} {σ : St} (h : σ.why = 0) (hp : 8 * s.size ≤ σ.pos) : bitF s σ = (0, { σ with why := 2 }) := by
 unfold bitF; rw [if_neg (by omega), if_pos hp]
theorem bitF_go {s : ByteArray} {σ : St} (h : σ.why = 0) (hp : σ.pos < 8 * s.size) : bitF s σ = (bitOf s σ.pos, { σ with pos := σ.pos + 1 }) := by
 unfold bitF; rw [if_neg (by omega), if_neg (by omega)]
theorem bitF_lt (s : ByteArray) (σ : St) : (bitF s σ).1 < 2 := by
 unfold bitF
 split
 · show 0 < 2; omega
 ·
  split
  · show 0 < 2; omega
  · exact Nat.mod_lt _ (by omega)
theorem byte_get (s : ByteArray) (i : Nat) (h : i < s.size) : s.data.toList.getD i 0 = s[i] := by
 rw [List.getD_eq_getElem?_getD, List.getElem?_eq_getElem (by rw [Array.length_toList]; exact h)]
 rfl
theorem index_run (s : ByteArray) (i : Nat) (ii : Int) (hi : ii = (i : Int)) (h : i < s.size) (w : World) : (Instr.index 9 (.string s) (.int .i64 ii)).run Tryz.prog w = .ok (.int .u8 ((s.data.toList.getD i 0).toNat : Int)) w := by
 subst hi
 rw [run_index_string (P := Tryz.prog) w 9 s .i64 (i : Int) Tryz.underlying9, byte_get s i h]
 simp [h]
set_option maxHeartbeats 400000 in
theorem bit_any (B gx : Nat) (s : ByteArray) (σ : St) (vt : Value) (w : World) (h : Str B w gx s σ vt) (hs : s.size ≤ 140737488400000) (hp : σ.pos ≤ 8 * s.size) :
 Calls Tryz.prog 84 #[.pointer (some ⟨gx, 0, none⟩)] w fun e w' => e = .returned (.int .i64 ((bitF s σ).1 : Int)) ∧ Str B w' gx s (bitF s σ).2 vt ∧ Kp w w' gx vt := by
 obtain ⟨pos, text, why, fin⟩ := σ
 have c0 := h.c0
 have c1 := h.c1
 have c3 := h.c3
 simp only at c1 c3 hp
 by_cases hy : why = 0
 ·
  subst hy
  by_cases hlt : pos < 8 * s.size
  ·
   have d1 : decide (8 * (s.size : Int) ≤ (pos : Int)) = false := by rw [decide_eq_false_iff_not]; omega
   have HF : Hid (bitF s ⟨pos, text, 0, fin⟩ = (bitOf s pos, ⟨pos + 1, text, 0, fin⟩)) := bitF_go rfl hlt
   have f1 := h.fz 1
   have hix := index_run s (pos / 8) ((pos : Int) / 8) (by omega) (by omega)
   obtain ⟨c, hc⟩ : ∃ c, c = (s.data.toList.getD (pos / 8) 0).toNat := ⟨_, rfl⟩
   rw [← hc] at hix
   have HC : Hid (c = (s.data.toList.getD (pos / 8) 0).toNat) := hc
   have hcb : c < 256 := by rw [hc]; exact UInt8.toNat_lt _
   clear hc
   go_enter Tryz.func84, Tryz.ntmps84
   go_wp2
   go_big_quiet (fail)
   go_wp2
   go_big_quiet (fail)
   go_wp2
   obtain ⟨r, hr⟩ : ∃ r, r = pos % 8 := ⟨_, rfl⟩
   have hrI : (pos : Int) % 8 = (r : Int) := by omega
   rw [hrI]
   clear hrI
   have HR : Hid (r = pos % 8) := hr
   have hr8 : r < 8 := by omega
   clear hr hix
   go_loop [3, 4] (fun n k => ∃ j : Nat, j ≤ r ∧ k = .int .i64 (r - j : Nat) ∧ n = .int .i64 (c / 2 ^ j : Nat)) (fun _ k => (intOf k).toNat)
   case atStart => exact ⟨0, by omega, by simp, by simp⟩
   case round =>
    obtain ⟨j, hj, rfl, rfl⟩ := hrel
    have hPb : c / 2 ^ j ≤ c := Nat.div_le_self _ _
    obtain ⟨P, hP⟩ : ∃ P, P = c / 2 ^ j := ⟨_, rfl⟩
    obtain ⟨x, hx⟩ : ∃ x, x = r - j := ⟨_, rfl⟩
    rw [← hP] at hPb ⊢
    rw [← hx]
    by_cases hlj : j < r
    ·
     have h1 : 1 ≤ x := by omega
     have h2 : x ≤ 8 := by omega
     have HX : Hid (x = r - j) := hx
     have HP : Hid (P / 2 = c / 2 ^ (j + 1)) := by
      show P / 2 = c / 2 ^ (j + 1)
      rw [hP, Nat.pow_succ, Nat.div_div_eq_div_mul]
     clear hx hP
     go_wp2
     go_round
     case rel => exact ⟨j + 1, by omega, by have := HX.out; go_num, by rw [← HP.out]; go_num⟩
     case measure => simp [intOf]; omega
    ·
     obtain rfl : j = r := by omega
     obtain rfl : x = 0 := by omega
     have HV : Hid ((P : Int) % 2 = ((bitOf s pos : Nat) : Int)) := by
      show (P : Int) % 2 = _
      unfold bitOf
      rw [hP, HC.out, HR.out]
      omega
     clear hx hP
     go_wp2
     go_ret
     exact ⟨ret_int (by rw [HF.out]; exact HV.out), by rw [HF.out]; exact (h.drewN _).setPos (pos + 1), ((Kp.refl _ _ _).drewN _).set 1 _⟩
  ·
   have d1 : decide (8 * (s.size : Int) ≤ (pos : Int)) = true := by rw [decide_eq_true_iff]; omega
   have HF : Hid (bitF s ⟨pos, text, 0, fin⟩ = (0, ⟨pos, text, 2, fin⟩)) := bitF_end rfl (by show 8 * s.size ≤ pos; omega)
   go_enter Tryz.func84, Tryz.ntmps84
   go_wp2
   go_big_quiet (fail)
   go_wp2_with fail
   refine (stops_any B gx 2 s _ vt _ (h.drewN nq)).mono ?_
   rintro e w' ⟨rfl, h', kp⟩
   have c3' := h'.c3
   have HS : Hid (stopF ⟨pos, text, 0, fin⟩ 2 = ⟨pos, text, 2, fin⟩) := rfl
   have kp' : Kp w w' gx vt := ⟨kp.os, kp.tape, kp.output, kp.size, kp.block⟩
   rw [HS.out] at c3' h'
   simp only at c3'
   go_wp2
   go_ret
   exact ⟨ret_int (by rw [HF.out]; rfl), by rw [HF.out]; exact h', kp'⟩
 ·
  have e3 : ((why : Int) != 0) = true := by rw [bne_iff_ne]; omega
  have HF : Hid (bitF s ⟨pos, text, why, fin⟩ = (0, ⟨pos, text, why, fin⟩)) := bitF_dead hy
  by_cases hlt : pos < 8 * s.size
  ·
   have d1 : decide (8 * (s.size : Int) ≤ (pos : Int)) = false := by rw [decide_eq_false_iff_not]; omega
   go_enter Tryz.func84, Tryz.ntmps84
   go_wp2
   go_big_quiet (fail)
   go_wp2
   go_ret
   exact ⟨ret_int (by rw [HF.out]; rfl), by rw [HF.out]; exact h.drewN nq, (Kp.refl _ _ _).drewN nq⟩
  ·
   have d1 : decide (8 * (s.size : Int) ≤ (pos : Int)) = true := by rw [decide_eq_true_iff]; omega
   go_enter Tryz.func84, Tryz.ntmps84
   go_wp2
   go_big_quiet (fail)
   go_wp2_with fail
   refine (stops_any B gx 2 s _ vt _ (h.drewN nq)).mono ?_
   rintro e w' ⟨rfl, h', kp⟩
   have HS : Hid (stopF ⟨pos, text, why, fin⟩ 2 = ⟨pos, text, why, fin⟩) := by show stopF _ _ = _; unfold stopF; rw [if_neg hy]
   rw [HS.out] at h'
   have c3' := h'.c3
   have kp' : Kp w w' gx vt := ⟨kp.os, kp.tape, kp.output, kp.size, kp.block⟩
   simp only at c3'
   go_wp2
   go_ret
   exact ⟨ret_int (by rw [HF.out]; rfl), by rw [HF.out]; exact h', kp'⟩
/- The document's number. -/
theorem bitF_pos {s : ByteArray} {σ : St} (h : σ.pos ≤ 8 * s.size) : (bitF s σ).2.pos ≤ 8 * s.size := by
 unfold bitF
 split
 · exact h
 ·
  split
  · exact h
  ·
   show σ.pos + 1 ≤ 8 * s.size
   omega
/-- A number of n bits, its lowest first. -/
def numF (s : ByteArray) : Nat → St → Nat × St
 | 0, σ => (0, σ)
 | n + 1, σ => ((bitF s σ).1 + 2 * (numF s n (bitF s σ).2).1, (numF s n (bitF s σ).2).2)
theorem numF_lt (s : ByteArray) : ∀ (n : Nat) (σ : St), (numF s n σ).1 < 2 ^ n
 | 0, _ => by simp [numF]
 |
  n + 1, σ => by
  have h1 := bitF_lt s σ
  have h2 := numF_lt s n (bitF s σ).2
  simp only [numF]
  rw [Nat.pow_succ]
  omega
theorem Kp.trans {w w1 w2 : World} {gx : Nat} {vt : Value} (h : Kp w w1 gx vt) (k : Kp w1 w2 gx vt) : Kp w w2 gx vt :=
 ⟨k.os.trans h.os, k.tape.trans h.tape, k.output.trans h.output, Nat.le_trans h.size k.size, fun b hb hx hv => (k.block b (Nat.lt_of_lt_of_le hb h.size) hx hv).trans (h.block b hb hx hv)⟩
/-- The state of number's loop: r bits are still to come. -/
structure NumRel (B : Nat) (w wr : World) (gx : Nat) (s : ByteArray) (vt : Value) (σ0 : St) (n r : Nat) (sum unit : Nat) (σ : St) : Prop where
 str : Str B wr gx s σ vt
 kp : Kp w wr gx vt
 pos : σ.pos ≤ 8 * s.size
 pow : unit * 2 ^ r = 2 ^ n
 tot : sum + unit * (numF s r σ).1 = (numF s n σ0).1
 fin : (numF s r σ).2 = (numF s n σ0).2
theorem num_step {B : Nat} {w wr w' : World} {gx : Nat} {s : ByteArray} {vt : Value} {σ0 : St} {n r sum unit : Nat} {σ : St} (h : NumRel B w wr gx s vt σ0 n (r + 1) sum unit σ) (hs : Str B w' gx s (bitF s σ).2 vt) (hk : Kp wr w' gx vt) :
 NumRel B w w' gx s vt σ0 n r (sum + (bitF s σ).1 * unit) (2 * unit) (bitF s σ).2 := by
 refine ⟨hs, h.kp.trans hk, bitF_pos h.pos, ?_, ?_, h.fin⟩
 · rw [← h.pow, Nat.pow_succ, Nat.mul_comm 2 unit, Nat.mul_assoc, Nat.mul_comm 2]
 ·
  rw [← h.tot]
  simp only [numF]
  generalize (numF s r (bitF s σ).2).1 = x
  generalize (bitF s σ).1 = b
  rw [Nat.mul_add, Nat.mul_comm b unit, Nat.mul_comm 2 unit, Nat.mul_assoc, Nat.add_assoc]
set_option maxHeartbeats 400000 in
theorem number_any (B gx n : Nat) (s : ByteArray) (σ : St) (vt : Value) (w : World) (h : Str B w gx s σ vt) (hs : s.size ≤ 140737488400000) (hp : σ.pos ≤ 8 * s.size) (hn : n ≤ 16) :
 Calls Tryz.prog 85 #[.pointer (some ⟨gx, 0, none⟩), .int .i64 (n : Int)] w fun e w' => e = .returned (.int .i64 ((numF s n σ).1 : Int)) ∧ Str B w' gx s (numF s n σ).2 vt ∧ Kp w w' gx vt := by
 have hlt := numF_lt s n σ
 have h16 : 2 ^ n ≤ 2 ^ 16 := Nat.pow_le_pow_right (by omega) hn
 have h16' : (2 : Nat) ^ 16 = 65536 := rfl
 have hlt2 : (numF s n σ).1 < 65536 := by omega
 have R0 : NumRel B w w gx s vt σ n n 0 1 σ := ⟨h, Kp.refl _ _ _, hp, by omega, by omega, rfl⟩
 have h216 : 2 ^ n ≤ 65536 := by omega
 clear h hlt h16 h16'
 go_enter Tryz.func85, Tryz.ntmps85
 go_wp2
 go_loopw [1, 5, 6, 7] (fun i x y _ wr => ∃ (r sum unit : Nat) (σ1 : St), r ≤ n ∧ i = .int .i64 (r : Nat) ∧ x = .int .i64 (sum : Nat) ∧ y = .int .i64 (unit : Nat) ∧ NumRel B w wr gx s vt σ n r sum unit σ1) (fun i _ _ _ _ => (intOf i).toNat)
 case atStart => exact ⟨n, 0, 1, σ, Nat.le_refl _, rfl, rfl, rfl, R0⟩
 case round =>
  obtain ⟨r, sum, unit, σ1, hr, rfl, rfl, rfl, hrel⟩ := hrel
  clear R0
  by_cases h0 : 0 < r
  ·
   obtain ⟨r', rfl⟩ : ∃ r', r = r' + 1 := ⟨r - 1, by omega⟩
   have hu := hrel.pow
   have hsum := hrel.tot
   have hub : unit ≤ 65536 := by
    have h1 : 1 ≤ 2 ^ (r' + 1) := Nat.one_le_two_pow
    have h2 := Nat.mul_le_mul_left unit h1
    omega
   have hsb : sum ≤ 65536 := by omega
   have hb2 := bitF_lt s σ1
   clear hu hsum
   obtain ⟨r1, hr1⟩ : ∃ r1, r1 = r' + 1 := ⟨_, rfl⟩
   rw [← hr1]
   have HR : Hid (r1 = r' + 1) := hr1
   have hp1 : 1 ≤ r1 := by omega
   have hp2 : r1 ≤ 16 := by omega
   clear hr1
   go_wp2_with fail
   refine (bit_any B gx s σ1 vt _ hrel.str hs hrel.pos).mono ?_
   rintro e w' ⟨rfl, hs', hk'⟩
   have R := num_step hrel hs' hk'
   clear hs' hk' hrel
   generalize hbb : bitF s σ1 = bb at R hb2 ⊢
   clear hbb
   obtain ⟨b, σ2⟩ := bb
   simp only at R hb2 ⊢
   obtain ⟨pr, hpr⟩ : ∃ pr, pr = b * unit := ⟨_, rfl⟩
   have hprb : pr ≤ 65536 := by
    rw [hpr]
    have := Nat.mul_le_mul (show b ≤ 1 by omega) hub
    omega
   have hpI : (b : Int) * (unit : Int) = (pr : Int) := by rw [hpr]; simp
   rw [← hpr] at R
   clear hpr
   go_wp2
   go_roundw
   case rel => exact ⟨r', sum + pr, 2 * unit, σ2, by omega, by have := HR.out; go_num, by go_num, by go_num, R⟩
   case measure => simp [intOf]; omega
  ·
   obtain rfl : r = 0 := by omega
   have hsum := hrel.tot
   have hfin := hrel.fin
   simp only [numF, Nat.mul_zero, Nat.add_zero] at hsum hfin
   have H1 : Hid (sum = (numF s n σ).1) := hsum
   have hstr := hrel.str
   rw [hfin] at hstr
   have hkp := hrel.kp
   clear hsum hfin hrel
   go_wp2
   go_ret
   exact ⟨ret_int (by rw [H1.out]), hstr, hkp⟩
/- The document's put: a byte of text. -/
def putF (σ : St) (c : UInt8) : St :=
 if σ.why ≠ 0 then σ else if σ.text.length = 5000 then { σ with why := 3 } else { σ with text := σ.text ++ [c] }
theorem byteVals_snoc (l : List UInt8) (c : UInt8) : byteVals (l ++ [c]) = byteVals l ++ [.int .u8 (c.toNat : Int)] := by simp [byteVals]
/-- The text with one byte more. -/
theorem str_more {B : Nat} {w w2 : World} {gx : Nat} {s : ByteArray} {σ : St} {vt : Value} {o : Obj} {c : UInt8} {g' cap' : Nat} (h : Str B w gx s σ vt)
 (ho : w2.ownsRow B 5 1 (.slice (some ⟨g', 0, none⟩) (σ.text.length + 1) cap') (σ.text.length + 1) (byteVals σ.text ++ [.int .u8 (c.toNat : Int)])) (hd : w.heap.size + 1 ≤ g' ∨ vt.ownBlock = some g') (hg : (w.alloc o).grownBy w2 (some g')) :
 gx ≠ g' ∧ w2.rowIs gx 136 5 (fun i => if i = 0 then .string s else if i = 1 then .int .i64 (σ.pos : Int) else if i = 2 then vt else if i = 3 then .int .i64 (σ.why : Int) else .bool σ.fin) ∧
 Runs B w (w2.setCell ⟨gx, 2, none⟩ (.slice (some ⟨g', 0, none⟩) (σ.text.length + 1) cap')) gx s vt { σ with text := σ.text ++ [c] } := by
 have hgl := h.row.lt
 have hne : gx ≠ g' := by
  intro e
  subst e
  rcases hd with hd | hd
  · omega
  · exact h.ne hd
 have hsz : (w.alloc o).heap.size = w.heap.size + 1 := by simp
 have hs2 := hg.size
 have blk : ∀ b, b < w.heap.size → b ≠ g' → w2.heap[b]? = w.heap[b]? := fun b hb hbn => (hg.block b (by omega) (by intro e; exact hbn (Option.some.inj e))).trans (Below.heap_alloc w o b hb)
 have hrow := h.row.of_block (blk gx hgl hne)
 refine ⟨hne, hrow, .slice (some ⟨g', 0, none⟩) (σ.text.length + 1) cap', ⟨h.le, ?_, ?_, ?_⟩, ⟨hg.os, hg.tape, hg.output, by simp [World.setCell]; omega, fun b hb hx hv => ?_⟩, ?_⟩
 ·
  exact (hrow.set 2 _).congr (fun i _ => by
   by_cases e : i = 2
   · subst e; simp
   ·
    rw [if_neg e]
    by_cases e0 : i = 0
    · rw [if_pos e0, if_pos e0]
    ·
     rw [if_neg e0, if_neg e0]
     by_cases e1 : i = 1
     · rw [if_pos e1, if_pos e1]
     · rw [if_neg e1, if_neg e1, if_neg e, if_neg e])
 ·
  have e : (σ.text ++ [c]).length = σ.text.length + 1 := by simp
  show World.ownsRow _ B 5 1 _ (σ.text ++ [c]).length (byteVals (σ.text ++ [c]))
  rw [e, byteVals_snoc]
  obtain ⟨q1, q2⟩ := ho
  refine ⟨q1, ?_⟩
  rcases q2 with ⟨q2, _⟩ | ⟨g, cap, cur, hv, hb, hh, r⟩
  · simp at q2
  ·
   have e1 : g' = g := by simp at hv; exact hv.1
   subst e1
   exact Or.inr ⟨g', cap, cur, hv, hb, (Below.heap_setCell _ _ _ _ (fun e => hne e.symm)).trans hh, r⟩
 ·
  intro e
  exact hne (Option.some.inj e).symm
 ·
  rw [Below.heap_setCell _ _ _ _ hx]
  refine blk b hb (fun e => ?_)
  subst e
  rcases hd with hd | hd
  · omega
  · exact hv hd
 ·
  intro g hgg
  have e : g' = g := Option.some.inj hgg
  subst e
  rcases hd with hd | hd
  · exact Or.inr (by omega)
  · exact Or.inl hd
set_option maxHeartbeats 400000 in
theorem put_any (B gx : Nat) (s : ByteArray) (σ : St) (vt : Value) (c : UInt8) (w : World) (h : Str B w gx s σ vt) (hB : B ≤ w.heap.size) (ht : σ.text.length ≤ 5000) :
 Calls Tryz.prog 109 #[.pointer (some ⟨gx, 0, none⟩), .int .u8 (c.toNat : Int)] w fun e w' => e = .returned (.tuple #[]) ∧ Runs B w w' gx s vt (putF σ c) := by
 obtain ⟨ao, cap, hvt⟩ : ∃ ao cap, vt = .slice ao σ.text.length cap := by
  obtain ⟨_, q⟩ := h.own
  rcases q with ⟨q, q0⟩ | ⟨g, cap, cur, q, _⟩
  · exact ⟨none, 0, by rw [q, q0]⟩
  · exact ⟨_, _, q⟩
 have c2 := h.c2
 have c3 := h.c3
 have f2 := h.fz 2
 by_cases hy : σ.why = 0
 ·
  have e3 : ((σ.why : Int) == 0) = true := by rw [beq_iff_eq]; omega
  by_cases hl : σ.text.length = 5000
  ·
   rw [hvt, hl] at c2
   have HF : Hid (putF σ c = { σ with why := 3 }) := by show putF σ c = _; unfold putF; rw [if_neg (by omega), if_pos hl]
   have HS : Hid (stopF σ 3 = { σ with why := 3 }) := by show stopF σ 3 = _; unfold stopF; rw [if_pos hy]
   clear hl hy hvt
   go_enter Tryz.func109, Tryz.ntmps109
   go_wp2_with fail
   refine (stops_any B gx 3 s σ vt _ h).mono ?_
   rintro e w' ⟨rfl, h', kp⟩
   have c3' := h'.c3
   rw [HS.out] at c3' h'
   simp only at c3'
   have R : Runs B w w' gx s vt { σ with why := 3 } := ⟨vt, h', kp, fun _ hg => Or.inl hg⟩
   clear h' kp
   go_wp2
   go_end0
   exact ⟨rfl, by rw [HF.out]; exact R⟩
  ·
   have HF : Hid (putF σ c = { σ with text := σ.text ++ [c] }) := by show putF σ c = _; unfold putF; rw [if_neg (by omega), if_neg hl]
   have e5 : ((σ.text.length : Int) == 5000) = false := by rw [beq_eq_false_iff_ne]; omega
   have hown := h.own
   rw [hvt] at c2 hown
   obtain ⟨n, hn⟩ : ∃ n, n = σ.text.length := ⟨_, rfl⟩
   rw [← hn] at c2 e5 hown ht
   have HN : Hid (n = σ.text.length) := hn
   clear hn hy hl
   go_enter Tryz.func109, Tryz.ntmps109
   go_wp2_with (first | (at_builtin; refine wpList_append1s w rfl (.tmp 28) (.tmp 30) 80 rfl B 5 (.int .u8 0) 1 Tryz.underlying80 Tryz.info5 rfl (.slice ao n cap) n _ (.int .u8 (c.toNat : Int)) rfl rfl w.heap.size rfl rfl hown hB (by unfold maxLen; omega) (by omega) ?_) | fail)
   intro g' cap' w2 ho hd hg
   rw [HN.out] at ho
   have hd' : w.heap.size + 1 ≤ g' ∨ vt.ownBlock = some g' := by rw [hvt, ← HN.out]; exact hd
   obtain ⟨hne, hrow, R⟩ := str_more h ho hd' hg
   rw [← HN.out] at R
   have k2 : w2.cell? ⟨gx, 2, none⟩ = some vt := by simpa using hrow.cell (i := 2) (by omega)
   have k3 := hrow.frozen 2
   clear ho hd hd' hg hrow hown hvt
   go_wp2
   go_end0
   exact ⟨rfl, by rw [HF.out]; exact R⟩
 ·
  have e3 : ((σ.why : Int) == 0) = false := by rw [beq_eq_false_iff_ne]; omega
  have HF : Hid (putF σ c = σ) := by show putF σ c = _; unfold putF; rw [if_pos hy]
  clear hy hvt
  go_enter Tryz.func109, Tryz.ntmps109
  go_wp2
  go_end0
  exact ⟨rfl, by rw [HF.out]; exact Runs.refl h⟩
end Go.Proofs.YtecddphahiadlaaGreatDoor
