import Derived.Test.YtecddphahiadlaaGreatDoorCPenN
import Derived.Test.YtecddphahiadlaaGreatDoorCTexts
import Derived.Deep.RegionWith
import Derived.Test.YtecddphahiadlaaGreatDoorCPastR
import Derived.Test.YtecddphahiadlaaGreatDoorCCfgR
import Derived.Lib.AppendStr
import Derived.Lib.Strings
import Derived.Lib.BufferRead
/- The program's writer: length, distance. -/
namespace Go.Proofs.YtecddphahiadlaaGreatDoor
open Go.RowKit
/-- The writer with its codes. -/
structure Wr (B : Nat) (w : World) (gx : Nat) (b : List Nat) (gs gd : Nat) (vb : Value) : Prop where
 pn : Pn B w gx b (.slice (some ⟨gs, 0, none⟩) 288 288) (.slice (some ⟨gd, 0, none⟩) 32 32) vb
 syms : w.rowIs gs 9 288 (fun i => .string (codeT fixZ 288 i))
 diss : w.rowIs gd 9 32 (fun i => .string (codeT fivZ 32 i))
 ns : gs ≠ gx ∧ vb.ownBlock ≠ some gs
 nd : gd ≠ gx ∧ vb.ownBlock ≠ some gd
def RunsW (B : Nat) (w w' : World) (gx : Nat) (b : List Nat) (gs gd : Nat) (vb : Value) : Prop :=
 ∃ vb', Wr B w' gx b gs gd vb' ∧ Kp w w' gx vb ∧ ∀ g, vb'.ownBlock = some g → vb.ownBlock = some g ∨ w.heap.size ≤ g
theorem Wr.runs {B : Nat} {w w' : World} {gx : Nat} {b b' : List Nat} {gs gd : Nat} {vb : Value} (h : Wr B w gx b gs gd vb) (hr : RunsP B w w' gx b' (.slice (some ⟨gs, 0, none⟩) 288 288) (.slice (some ⟨gd, 0, none⟩) 32 32) vb) : RunsW B w w' gx b' gs gd vb := by
 obtain ⟨vb', hp, hk, hf⟩ := hr
 have l1 := h.syms.lt
 have l2 := h.diss.lt
 refine ⟨vb', ⟨hp, h.syms.of_block (hk.block gs l1 h.ns.1 h.ns.2), h.diss.of_block (hk.block gd l2 h.nd.1 h.nd.2), ⟨h.ns.1, fun e => ?_⟩, ⟨h.nd.1, fun e => ?_⟩⟩, hk, hf⟩
 ·
  rcases hf gs e with e | e
  · exact h.ns.2 e
  · omega
 ·
  rcases hf gd e with e | e
  · exact h.nd.2 e
  · omega
theorem RunsW.refl {B : Nat} {w : World} {gx : Nat} {b : List Nat} {gs gd : Nat} {vb : Value} (h : Wr B w gx b gs gd vb) : RunsW B w w gx b gs gd vb := ⟨vb, h, Kp.refl _ _ _, fun _ hg => Or.inl hg⟩
theorem Kp.andThen {w w1 w2 : World} {gx : Nat} {vb vb1 : Value} (k1 : Kp w w1 gx vb) (f1 : ∀ g, vb1.ownBlock = some g → vb.ownBlock = some g ∨ w.heap.size ≤ g) (k2 : Kp w1 w2 gx vb1) : Kp w w2 gx vb := by
 refine ⟨k2.os.trans k1.os, k2.tape.trans k1.tape, k2.output.trans k1.output, Nat.le_trans k1.size k2.size, fun b hb hx hv => ?_⟩
 rw [k2.block b (Nat.lt_of_lt_of_le hb k1.size) hx (fun e => ?_), k1.block b hb hx hv]
 rcases f1 b e with e' | e'
 · exact hv e'
 · omega
theorem RunsW.trans {B : Nat} {w w1 w2 : World} {gx : Nat} {b2 : List Nat} {gs gd : Nat} {vb vb1 : Value} (k1 : Kp w w1 gx vb) (f1 : ∀ g, vb1.ownBlock = some g → vb.ownBlock = some g ∨ w.heap.size ≤ g) (h2 : RunsW B w1 w2 gx b2 gs gd vb1) : RunsW B w w2 gx b2 gs gd vb := by
 obtain ⟨vb2, s2, k2, f2⟩ := h2
 refine ⟨vb2, s2, k1.andThen f1 k2, fun g hg => ?_⟩
 rcases f2 g hg with e | e
 · exact f1 g e
 · exact Or.inr (Nat.le_trans k1.size e)
theorem Wr.drewN {B : Nat} {w : World} {gx : Nat} {b : List Nat} {gs gd : Nat} {vb : Value} (h : Wr B w gx b gs gd vb) (q : Nat) : Wr B (w.drewN q) gx b gs gd vb := ⟨h.pn.drewN q, h.syms.of_block rfl, h.diss.of_block rfl, h.ns, h.nd⟩
theorem Wr.drew {B : Nat} {w : World} {gx : Nat} {b : List Nat} {gs gd : Nat} {vb : Value} (h : Wr B w gx b gs gd vb) : Wr B w.drew gx b gs gd vb := ⟨⟨h.pn.le, h.pn.row.drew, h.pn.own, h.pn.ne⟩, h.syms.of_block rfl, h.diss.of_block rfl, h.ns, h.nd⟩
theorem codeT_fix {i : Nat} (h : i < 288) : codeT fixZ 288 i = bitsB (codeN fixZ 288 i) (fixZ i).toNat := codeT_eq fix_full h
theorem codeT_fiv {i : Nat} (h : i < 32) : codeT fivZ 32 i = bitsB (codeN fivZ 32 i) (fivZ i).toNat := codeT_eq fiv_full h
theorem fixZ_nat (i : Nat) : (fixZ i).toNat ≤ 15 := by have := fixZ_one i; omega
/-- A symbol is written. -/
theorem wsym_any (B gx gs gd i : Nat) (b : List Nat) (vb : Value) (w w0 : World) (hw : w0 = w.drew) (h : Wr B w gx b gs gd vb) (hB : B ≤ w.heap.size) (hl : b.length + 15 ≤ 1000000) (hi : i < 288) :
 Calls Tryz.prog 77 #[.pointer (some ⟨gx, 0, none⟩), .string (codeT fixZ 288 i)] w0 fun e w' => e = .returned (.tuple #[]) ∧ RunsW B w w' gx (b ++ symB i) gs gd vb := by
 subst hw
 rw [codeT_fix hi]
 refine (pcode_any B gx _ _ b _ _ vb w.drew h.drew.pn hB (by have := fixZ_nat i; omega) (fixZ_nat i)).mono ?_
 rintro e w' ⟨rfl, hr⟩
 refine ⟨rfl, RunsW.trans (Kp.drewN (Kp.refl w gx vb) 1) (fun _ hg => Or.inl hg) (h.drew.runs hr)⟩
theorem wdis_any (B gx gs gd i : Nat) (b : List Nat) (vb : Value) (w w0 : World) (hw : w0 = w.drew) (h : Wr B w gx b gs gd vb) (hB : B ≤ w.heap.size) (hl : b.length + 15 ≤ 1000000) (hi : i < 32) :
 Calls Tryz.prog 77 #[.pointer (some ⟨gx, 0, none⟩), .string (codeT fivZ 32 i)] w0 fun e w' => e = .returned (.tuple #[]) ∧ RunsW B w w' gx (b ++ disB i) gs gd vb := by
 subst hw
 rw [codeT_fiv hi]
 refine (pcode_any B gx _ _ b _ _ vb w.drew h.drew.pn hB (by show b.length + 5 ≤ _; omega) (by show 5 ≤ 15; omega)).mono ?_
 rintro e w' ⟨rfl, hr⟩
 refine ⟨rfl, RunsW.trans (Kp.drewN (Kp.refl w gx vb) 1) (fun _ hg => Or.inl hg) (h.drew.runs hr)⟩
theorem placedL_int (v : Nat) (V : Int) (hV : V = (v : Int)) (hv : v < 255) (w : World) :
 Calls Tryz.prog 120 #[.int .i64 V, .int .i64 2] w fun e w' => ∃ p, PlL v p ∧ e = .returned (.tuple #[.int .i64 (p : Nat), .int .i64 (v - tellL p : Nat), .int .i64 (addL p : Nat)]) ∧ w' = w := by
 subst hV; exact placedL_any v hv w
theorem placedD_int (v : Nat) (V : Int) (hV : V = (v : Int)) (hv : v < 5000) (w : World) :
 Calls Tryz.prog 120 #[.int .i64 V, .int .i64 1] w fun e w' => ∃ p, PlD v p ∧ e = .returned (.tuple #[.int .i64 (p : Nat), .int .i64 (v - tellD p : Nat), .int .i64 (addD p : Nat)]) ∧ w' = w := by
 subst hV; exact placedD_any v hv w
set_option maxRecDepth 4000 in
set_option maxHeartbeats 1000000 in
theorem wlen_any (B gx gs gd n : Nat) (b : List Nat) (vb : Value) (w : World) (h : Wr B w gx b gs gd vb) (hB : B ≤ w.heap.size) (hl : b.length + 30 ≤ 1000000) (h3 : 3 ≤ n) (h258 : n ≤ 258) :
 Calls Tryz.prog 104 #[.pointer (some ⟨gx, 0, none⟩), .int .i64 (n : Int)] w fun e w' => e = .returned (.tuple #[]) ∧ ∃ p, (n ≠ 258 → PlL (n - 3) p) ∧ RunsW B w w' gx (b ++ lenB n p) gs gd vb := by
 have c2 := h.pn.c2
 by_cases hn : n = 258
 ·
  have c285 := h.syms.cell (i := 285) (by omega)
  have HB : Hid (∀ p, lenB n p = symB 285) := fun p => by unfold lenB; rw [if_pos hn]
  subst hn
  go_enter Tryz.func104, Tryz.ntmps104
  go_wp2
  go_region_with (go_at_call 77; refine (wsym_any B gx gs gd 285 b vb w _ rfl h hB (by omega) (by omega)).mono ?_; rintro e w2 ⟨rfl, hr⟩)
  go_wp2
  refine bodyPost_ret (results_none rfl _ _ _) rfl ?_
  exact ⟨rfl, 0, fun e => absurd rfl e, by rw [HB.out]; exact hr⟩
 ·
  have hnI : ¬ (n : Int) = 258 := by omega
  go_enter Tryz.func104, Tryz.ntmps104
  go_wp2_with fail
  refine (placedL_int (n - 3) ((n : Int) - 3) (by omega) (by omega) _).mono ?_
  rintro e w1 ⟨p, hpl, rfl, rfl⟩
  obtain ⟨hp1, hp2, hp3⟩ := hpl
  obtain ⟨hu1, hu2, hu3⟩ := tellL_up p hp1
  obtain ⟨y, hy⟩ : ∃ y, y = 257 + p := ⟨_, rfl⟩
  have cp := h.syms.cell (i := y) (by omega)
  have hIx : (257 : Int) + (p : Int) = (y : Int) := by omega
  have hIl : (y : Int) < 288 := by omega
  have hpw : 2 ^ addL p ≤ 2 ^ 5 := Nat.pow_le_pow_right (by omega) hu3
  have HB : Hid (lenB n p = symB y ++ numB (n - 3 - tellL p) (addL p)) := by show _ = _; unfold lenB; rw [if_neg hn, hy]
  have hy2 : y < 288 := by omega
  have hwy : IntKind.i64.wrap (y : Int) = (y : Int) := by rw [IntKind.wrap_i64]; omega
  clear hy
  have HP : Hid (PlL (n - 3) p) := ⟨hp1, hp2, hp3⟩
  have hxv : n - 3 - tellL p < 65536 := by omega
  have ha16 : addL p ≤ 5 := hu3
  clear hp2 hp3 hu1 hu2 hu3 hpw
  generalize n - 3 - tellL p = X at HB hxv ⊢
  generalize addL p = A at HB ha16 ⊢
  go_wp2
  go_region_with (go_at_call 77; refine (wsym_any B gx gs gd y b vb w1 _ rfl h hB (by omega) (by omega)).mono ?_; rintro e w2 ⟨rfl, vb2, hW2, hk2, hf2⟩)
  go_wp2_with fail
  refine (pnum_any B gx X A (b ++ symB y) _ _ vb2 _ hW2.pn (Nat.le_trans hB hk2.size) (by have := (symB_le y).1; rw [List.length_append]; omega) hxv (by omega)).mono ?_
  rintro e w3 ⟨rfl, hr⟩
  have R := RunsW.trans hk2 hf2 (hW2.runs hr)
  rw [List.append_assoc, ← HB.out] at R
  clear hr hW2 hk2 hf2
  go_wp2
  go_end0
  exact ⟨rfl, p, fun _ => HP.out, R⟩
set_option maxRecDepth 4000 in
set_option maxHeartbeats 1000000 in
theorem wdist_any (B gx gs gd d : Nat) (b : List Nat) (vb : Value) (w : World) (h : Wr B w gx b gs gd vb) (hB : B ≤ w.heap.size) (hl : b.length + 30 ≤ 1000000) (h1 : 1 ≤ d) (h5 : d ≤ 5000) :
 Calls Tryz.prog 105 #[.pointer (some ⟨gx, 0, none⟩), .int .i64 (d : Int)] w fun e w' => e = .returned (.tuple #[]) ∧ ∃ q, PlD (d - 1) q ∧ RunsW B w w' gx (b ++ dstB d q) gs gd vb := by
 have c3 := h.pn.c3
 go_enter Tryz.func105, Tryz.ntmps105
 go_wp2_with fail
 refine (placedD_int (d - 1) ((d : Int) - 1) (by omega) (by omega) _).mono ?_
 rintro e w1 ⟨p, hpl, rfl, rfl⟩
 obtain ⟨hp1, hp2, hp3⟩ := hpl
 obtain ⟨hu1, hu2, hu3⟩ := tellD_up p (by omega)
 have cp := h.diss.cell (i := p) (by omega)
 have hIl : (p : Int) < 32 := by omega
 have hpw : 2 ^ addD p ≤ 2 ^ 13 := Nat.pow_le_pow_right (by omega) hu3
 have HB : Hid (dstB d p = disB p ++ numB (d - 1 - tellD p) (addD p)) := rfl
 have HP : Hid (PlD (d - 1) p) := ⟨hp1, hp2, hp3⟩
 have hxv : d - 1 - tellD p < 65536 := by omega
 have ha16 : addD p ≤ 13 := hu3
 clear hp2 hp3 hu1 hu2 hu3 hpw
 generalize d - 1 - tellD p = X at HB hxv ⊢
 generalize addD p = A at HB ha16 ⊢
 go_wp2
 go_region_with (go_at_call 77; refine (wdis_any B gx gs gd p b vb w1 _ rfl h hB (by omega) (by omega)).mono ?_; rintro e w2 ⟨rfl, vb2, hW2, hk2, hf2⟩)
 go_wp2_with fail
 refine (pnum_any B gx X A (b ++ disB p) _ _ vb2 _ hW2.pn (Nat.le_trans hB hk2.size) (by have := disB_length p; rw [List.length_append]; omega) hxv (by omega)).mono ?_
 rintro e w3 ⟨rfl, hr⟩
 have R := RunsW.trans hk2 hf2 (hW2.runs hr)
 rw [List.append_assoc, ← HB.out] at R
 clear hr hW2 hk2 hf2
 go_wp2
 go_end0
 exact ⟨rfl, p, HP.out, R⟩
/- A text as it is written, symbol by symbol: plain reckoning. -/
def pre (T : ByteArray) (a : Nat) : List UInt8 := T.data.toList.take a
theorem pre_length {T : ByteArray} {a : Nat} (h : a ≤ T.size) : (pre T a).length = a := by
 unfold pre
 rw [List.length_take, Array.length_toList]
 have : T.data.size = T.size := rfl
 omega
theorem pre_snoc {T : ByteArray} {a : Nat} (h : a < T.size) : pre T (a + 1) = pre T a ++ [tb T a] := by
 unfold pre tb
 have hl : a < T.data.toList.length := by rw [Array.length_toList]; exact h
 rw [List.take_add_one, List.getD_eq_getElem?_getD, List.getElem?_eq_getElem hl]
 rfl
theorem pre_at {T : ByteArray} {a i : Nat} (h : i < a) : (pre T a).getD i 0 = tb T i := by
 unfold pre tb
 rw [List.getD_eq_getElem?_getD, List.getElem?_take, if_pos h, ← List.getD_eq_getElem?_getD]
theorem pre_whole (T : ByteArray) : pre T T.size = T.data.toList := by
 unfold pre
 exact List.take_of_length_le (by rw [Array.length_toList]; exact Nat.le_refl _)
theorem copy_pre {T : ByteArray} {d : Nat} (hd : 1 ≤ d) : ∀ (l a : Nat), d ≤ a → a + l ≤ T.size → Alk T (a - d) a l → copyF d l (pre T a) = pre T (a + l)
 | 0, a, _, _, _ => rfl
 |
  l + 1, a, hda, hl, hs => by
  simp only [copyF]
  have h0 := hs 0 (by omega)
  rw [Nat.add_zero, Nat.add_zero] at h0
  rw [pre_length (by omega), pre_at (by omega), h0, ← pre_snoc (by omega), copy_pre hd l (a + 1) (by omega) (by omega) (fun i hi => by
   have := hs (i + 1) (by omega)
   rw [show a + 1 - d + i = a - d + (i + 1) from by omega, show a + 1 + i = a + (i + 1) from by omega]
   exact this), show a + 1 + l = a + (l + 1) from by omega]
def CostOk (T : ByteArray) (a L : Nat) : Prop :=
 Uni T → (a = 0 ∧ L = 0) ∨ (1 ≤ a ∧ (a - 1) % 258 = 0 ∧ 5 * L ≤ 2 * (a - 1) + 45) ∨ (T.size ≤ a + 2 ∧ 5 * L + 45 * (T.size - a) ≤ 2 * a + 300)
/-- So much is written. -/
structure AllR (T : ByteArray) (a : Nat) (b : List Nat) : Prop where
 le : a ≤ T.size
 dec : Dec (pre T a) b
 len : b.length ≤ 32 * a
 cost : CostOk T a b.length
theorem AllR.start (T : ByteArray) : AllR T 0 [] := ⟨by omega, Dec.nil, by simp, fun _ => Or.inl ⟨rfl, rfl⟩⟩
theorem AllR.lit {T : ByteArray} {a d : Nat} {b : List Nat} (h : AllR T a b) (ha : a < T.size) (hl : LongOk T a 0 d) : AllR T (a + 1) (b ++ symB (tb T a).toNat) := by
 have hs := symB_le (tb T a).toNat
 have hn := h.len
 refine ⟨ha, ?_, by rw [List.length_append]; omega, fun hu => ?_⟩
 ·
  rw [pre_snoc ha]
  exact h.dec.lit _
 ·
  have hc := h.cost hu
  rw [List.length_append]
  have h2 : a = 0 ∨ T.size < a + 3 := by
   rcases hl with ⟨_, _, q⟩ | q
   · exact q hu
   · have := q.1; omega
  rcases hc with ⟨c1, c2⟩ | ⟨c1, c2, c3⟩ | ⟨c1, c2⟩
  ·
   subst c1
   exact Or.inr (Or.inl ⟨by omega, by simp, by omega⟩)
  · exact Or.inr (Or.inr ⟨by omega, by omega⟩)
  · exact Or.inr (Or.inr ⟨by omega, by omega⟩)
theorem lenB_le (n p : Nat) (hp : n ≠ 258 → PlL (n - 3) p) : (lenB n p).length ≤ 13 ∧ (n = 258 → (lenB n p).length ≤ 8) := by
 unfold lenB
 by_cases e : n = 258
 ·
  rw [if_pos e]
  have := symB_great 285 (by omega)
  exact ⟨by omega, fun _ => this⟩
 ·
  rw [if_neg e, List.length_append, numB_length]
  have h1 := symB_great (257 + p) (by omega)
  have h2 := (tellL_up p (hp e).1).2.2
  exact ⟨by omega, fun h => absurd h e⟩
theorem dstB_le (d q : Nat) (hd : 1 ≤ d) (hq : PlD (d - 1) q) : (dstB d q).length ≤ 18 ∧ (d = 1 → (dstB d q).length = 5) := by
 unfold dstB
 rw [List.length_append, numB_length, disB_length]
 have h2 := (tellD_up q (by have := hq.1; omega)).2.2
 refine ⟨by omega, fun e => ?_⟩
 subst e
 have h3 := hq.2.1
 have h4 : q = 0 := by
  rcases (by omega : q = 0 ∨ 1 ≤ q) with e | e
  · exact e
  ·
   exfalso
   have : ∀ q, q < 25 → 1 ≤ q → 1 ≤ tellD q := by decide
   have := this q hq.1 e
   omega
 subst h4
 rfl
theorem AllR.pair {T : ByteArray} {a l d p q : Nat} {b : List Nat} (h : AllR T a b) (hg : Good T a l d) (hp : l ≠ 258 → PlL (l - 3) p) (hq : PlD (d - 1) q) : AllR T (a + l) (b ++ (lenB l p ++ dstB d q)) := by
 obtain ⟨g1, g2, g3, g4, g5, g6, g7⟩ := hg
 have hl := lenB_le l p hp
 have hd := dstB_le d q g4 hq
 have hn := h.len
 refine ⟨g3, ?_, by simp only [List.length_append]; omega, fun hu => ?_⟩
 ·
  rw [← copy_pre g4 l a g5 g3 g6]
  exact h.dec.pair g1 g2 hp g4 (by rw [pre_length h.le]; exact g5) hq
 ·
  have hc := h.cost hu
  obtain ⟨u1, u2⟩ := g7 hu
  have hd5 := hd.2 u2
  simp only [List.length_append]
  rcases hc with ⟨c1, c2⟩ | ⟨c1, c2, c3⟩ | ⟨c1, c2⟩
  · omega
  ·
   by_cases e : l = 258
   ·
    have := hl.2 e
    exact Or.inr (Or.inl ⟨by omega, by omega, by omega⟩)
   · exact Or.inr (Or.inr ⟨by omega, by omega⟩)
  · omega
theorem AllR.short {T : ByteArray} {b : List Nat} (h : AllR T T.size b) (hu : Uni T) : 5 * b.length ≤ 2 * T.size + 300 := by
 rcases h.cost hu with ⟨c1, c2⟩ | ⟨c1, c2, c3⟩ | ⟨c1, c2⟩ <;> omega
/- The program's writer: all. -/
theorem Wr.later {B : Nat} {w w1 : World} {gx : Nat} {b : List Nat} {gs gd : Nat} {vb : Value} (h : Wr B w gx b gs gd vb) (hb : Below w.heap.size w w1) : Wr B w1 gx b gs gd vb := by
 obtain ⟨bs, hpb, q1, q2⟩ := h.pn.own
 refine ⟨⟨h.pn.le, h.pn.row.of_block (hb.block gx h.pn.row.lt), ⟨bs, hpb, q1, ?_⟩, h.pn.ne⟩, h.syms.of_block (hb.block gs h.syms.lt), h.diss.of_block (hb.block gd h.diss.lt), h.ns, h.nd⟩
 rcases q2 with q2 | ⟨g, cap, cur, hv, hg, hh, r⟩
 · exact Or.inl q2
 · exact Or.inr ⟨g, cap, cur, hv, hg, (hb.block g (Array.getElem?_eq_some_iff.1 hh).1).trans hh, r⟩
theorem kp_of_below {w w1 : World} (hb : Below w.heap.size w w1) (gx : Nat) (vb : Value) : Kp w w1 gx vb := ⟨hb.os, hb.tape, hb.output, hb.size, fun b h _ _ => hb.block b h⟩
/-- In the loop of all. -/
structure WAR (B : Nat) (w1 wr : World) (gx : Nat) (b0 : List Nat) (gs gd : Nat) (vb : Value) (T : ByteArray) (a : Nat) : Prop where
 run : ∃ b, AllR T a b ∧ RunsW B w1 wr gx (b0 ++ b) gs gd vb
theorem WAR.block {B : Nat} {w1 wr : World} {gx : Nat} {b0 : List Nat} {gs gd : Nat} {vb : Value} {T : ByteArray} {a : Nat} (h : WAR B w1 wr gx b0 gs gd vb T a) {g : Nat} (hg : g < w1.heap.size) (hx : g ≠ gx) (hv : vb.ownBlock ≠ some g) : wr.heap[g]? = w1.heap[g]? := by
 obtain ⟨b, _, vb', _, hk, _⟩ := h.run
 exact hk.block g hg hx hv
set_option maxRecDepth 4000 in
set_option maxHeartbeats 2000000 in
theorem wall_any (B gx gs gd : Nat) (b0 : List Nat) (vb : Value) (T : ByteArray) (w : World) (h : Wr B w gx b0 gs gd vb) (hB : B ≤ w.heap.size) (hl : b0.length ≤ 1000) (hT : T.size ≤ 5000) :
 Calls Tryz.prog 76 #[.pointer (some ⟨gx, 0, none⟩), .string T] w fun e w' => e = .returned (.tuple #[]) ∧ ∃ b, AllR T T.size b ∧ RunsW B w w' gx (b0 ++ b) gs gd vb := by
 go_enter Tryz.func76, Tryz.ntmps76
 go_wp2_with fail
 refine (remember_any T _ hT).mono ?_
 rintro e w1 ⟨ge, z, rfl, hge, hI, hE, hb1⟩
 have hb2 : Below w.heap.size w (w1.alloc (.cells #[.string T, .slice (some ⟨ge, 0, none⟩) T.size T.size] 163)) := hb1.alloc hb1.size _
 have h2 := h.later hb2
 have hk2 := kp_of_below hb2 gx vb
 have hIb : IntsAt (w1.alloc (.cells #[.string T, .slice (some ⟨ge, 0, none⟩) T.size T.size] 163)) ge 0 T.size z := hI.later ((Below.refl _ _).alloc (Nat.le_refl _) _)
 have hbox : (w1.alloc (.cells #[.string T, .slice (some ⟨ge, 0, none⟩) T.size T.size] 163)).heap[w1.heap.size]? = some (.cells #[.string T, .slice (some ⟨ge, 0, none⟩) T.size T.size] 163 (0, 0)) := heap_alloc_last w1 _
 have hs1 := hb1.size
 have hgx := h.pn.row.lt
 have hvn : ∀ g, vb.ownBlock = some g → g < w.heap.size := fun g e => by
  obtain ⟨bs, _, hown⟩ := h.pn.own
  exact (hown.lt g e).2
 have R0 : WAR B (w1.alloc (.cells #[.string T, .slice (some ⟨ge, 0, none⟩) T.size T.size] 163)) (w1.alloc (.cells #[.string T, .slice (some ⟨ge, 0, none⟩) T.size T.size] 163)) gx b0 gs gd vb T 0 := ⟨[], AllR.start T, by rw [List.append_nil]; exact RunsW.refl h2⟩
 have hw2 : w1.heap.size < (w1.alloc (.cells #[.string T, .slice (some ⟨ge, 0, none⟩) T.size T.size] 163)).heap.size := by simp
 go_wp2
 generalize w1.alloc (.cells #[.string T, .slice (some ⟨ge, 0, none⟩) T.size T.size] 163) = W at hb2 h2 hk2 hIb hbox R0 hw2 ⊢
 obtain ⟨gb, hgb⟩ : ∃ gb, gb = w1.heap.size := ⟨_, rfl⟩
 rw [← hgb] at hbox hw2 ⊢
 have hWw := hb2.size
 have nb : gb ≠ gx ∧ vb.ownBlock ≠ some gb := ⟨by omega, fun e => by have := hvn _ e; omega⟩
 have ne : ge ≠ gx ∧ vb.ownBlock ≠ some ge := ⟨by omega, fun e => by have := hvn _ e; omega⟩
 clear hb1 hs1 hI h hgb hvn hge hb2
 go_loopw [5] (fun x wr => ∃ a : Nat, x = .int .i64 (a : Nat) ∧ WAR B W wr gx b0 gs gd vb T a) (fun x _ => T.size - (intOf x).toNat)
 case atStart => exact ⟨0, rfl, R0⟩
 case round =>
  obtain ⟨a, rfl, hrel⟩ := hrel
  clear R0
  obtain ⟨b, hA, hR⟩ := hrel.run
  have haT := hA.le
  by_cases hlt : a < T.size
  ·
   have hrow : wr.heap[gb]? = _ := (hrel.block hw2 nb.1 nb.2).trans hbox
   have hIr : IntsAt wr ge 0 T.size z := ⟨fun i hi => by
    have e := hIb.cell i hi
    simp only [World.cell?] at e ⊢
    rw [hrel.block hIb.lt ne.1 ne.2]; exact e, by
    obtain ⟨_, _, _, _, hk, _⟩ := hrel.run
    exact Nat.lt_of_lt_of_le hIb.lt hk.size⟩
   have hsz : (Tryz.prog.info? 163).map (·.size) = some (#[Value.string T, .slice (some ⟨ge, 0, none⟩) T.size T.size]).size := Tryz.size163
   have hlen := hA.len
   obtain ⟨vb1, hW1, hk1, hf1⟩ := hR
   have hB1 : B ≤ wr.heap.size := Nat.le_trans (Nat.le_trans hB hWw) hk1.size
   clear hrel
   go_wp2_with (first | (refine wpList_load_row_g rfl 163 (.tmp 4) rfl gb rfl 163 #[.string T, .slice (some ⟨ge, 0, none⟩) T.size T.size] (0, 0) _ hrow Tryz.underlying163 rfl hsz ?_) | fail)
   refine (longest_any a ge T.size z T _ hT hlt hE hIr).mono ?_
   rintro e w3 ⟨l, d, rfl, hL, hb3⟩
   have hW3 := hW1.later hb3
   have hk3 := hk1.andThen hf1 (kp_of_below hb3 gx vb1)
   have hB3 : B ≤ w3.heap.size := Nat.le_trans hB1 hb3.size
   have hf3 : ∀ g, vb1.ownBlock = some g → vb.ownBlock = some g ∨ W.heap.size ≤ g := hf1
   clear hk1 hf1 hW1 hb3 hrow hIr hsz
   by_cases hl0 : l = 0
   ·
    subst hl0
    have hA2 := hA.lit hlt hL
    have c2 := hW3.pn.c2
    have hir : ∀ wq, _ := fun wq => index_run T a (a : Int) rfl hlt wq
    have hc256 := (tb T a).toNat_lt
    have HT : Hid ((T.data.toList.getD a 0).toNat = (tb T a).toNat) := rfl
    rw [HT.out] at hir
    generalize (tb T a).toNat = c at hir hc256 hA2
    have cs := hW3.syms.cell (i := c) (by omega)
    have hcI : (c : Int) < 288 := by omega
    clear hL
    go_wp2
    go_region_with (go_at_call 77; refine (wsym_any B gx gs gd c (b0 ++ b) vb1 w3 _ rfl hW3 hB3 (by rw [List.length_append]; omega) (by omega)).mono ?_; rintro e w4 ⟨rfl, hr⟩)
    all_goals
     have R := RunsW.trans hk3 hf3 hr
     rw [List.append_assoc] at R
     clear hr hW3 hk3 hf3 c2 cs
     go_wp2
     go_roundw
     case rel => exact ⟨a + 1, by go_num, ⟨_, hA2, R⟩⟩
     case measure => simp [intOf]; omega
   ·
    have hlI : ¬ (l : Int) = 0 := by omega
    have hg : Good T a l d := by
     rcases hL with ⟨e, _⟩ | e
     · exact absurd e hl0
     · exact e
    have hg1 := hg.1
    have hg2 := hg.2.1
    have hg3 := hg.2.2.1
    have hg4 := hg.2.2.2.1
    have hg5 := hg.2.2.2.2.1
    have HGd : Hid (Good T a l d) := hg
    clear hL hg
    go_wp2_with fail
    refine (wlen_any B gx gs gd l (b0 ++ b) vb1 _ hW3 hB3 (by rw [List.length_append]; omega) hg1 hg2).mono ?_
    rintro e w4 ⟨rfl, p, hp, vb4, hW4, hk4, hf4⟩
    have HPl : Hid (l ≠ 258 → PlL (l - 3) p) := hp
    have hlb := lenB_le l p hp
    clear hp
    go_wp2_with fail
    refine (wdist_any B gx gs gd d ((b0 ++ b) ++ lenB l p) vb4 _ hW4 (Nat.le_trans hB3 hk4.size) (by simp only [List.length_append]; omega) hg4 (by omega)).mono ?_
    rintro e w5 ⟨rfl, q, hq, hr⟩
    have R := RunsW.trans hk3 hf3 (RunsW.trans hk4 hf4 hr)
    have hA2 := hA.pair HGd.out HPl.out hq
    rw [List.append_assoc, List.append_assoc] at R
    clear hr hW3 hk3 hf3 hW4 hk4 hf4 hq hlb
    go_wp2
    go_roundw
    case rel => exact ⟨a + l, by go_num, ⟨_, hA2, R⟩⟩
    case measure => simp [intOf]; omega
  ·
   obtain rfl : a = T.size := by omega
   have R := RunsW.trans hk2 (fun _ hg => Or.inl hg) hR
   clear hrel
   go_wp2
   go_end0
   exact ⟨rfl, b, hA, R⟩
/- Pieces of a stream, from a whole byte to a whole byte, and its end: as the document reads them: plain reckoning. -/
/-- Bits that lie in a stream from a byte on. -/
theorem PB.hasAt {bs : List UInt8} {b : List Nat} (h : PB bs b) {s : ByteArray} {k : Nat} (hs : HasAt s k bs) : HasBits s (8 * k) b := by
 have hl := h.len
 have h1 := hs.1
 refine ⟨by omega, fun j hj => ?_⟩
 have h2 := hs.2 (j / 8) (by omega)
 unfold bitOf
 rw [show (8 * k + j) / 8 = k + j / 8 by omega, h2, h.val _ (by omega), show (8 * k + j) % 8 = j % 8 by omega, byteAt_bit h.bits _ _ (by omega)]
 congr 1
 omega
theorem HasAt.leftOf {s : ByteArray} {k : Nat} {x y : List UInt8} (h : HasAt s k (x ++ y)) : HasAt s k x := by
 refine ⟨by have := h.1; simp at this; omega, fun j hj => ?_⟩
 have e := h.2 j (by simp; omega)
 rw [e, List.getD_eq_getElem?_getD, List.getElem?_append_left hj, ← List.getD_eq_getElem?_getD]
theorem HasAt.rightOf {s : ByteArray} {k : Nat} {x y : List UInt8} (h : HasAt s k (x ++ y)) : HasAt s (k + x.length) y := by
 refine ⟨by have := h.1; simp at this; omega, fun j hj => ?_⟩
 have e := h.2 (x.length + j) (by simp; omega)
 rw [Nat.add_assoc, e, List.getD_eq_getElem?_getD, List.getElem?_append_right (by omega), Nat.add_sub_cancel_left, ← List.getD_eq_getElem?_getD]
/-- A block's head in the bits. -/
theorem head_read {s : ByteArray} {p l k : Nat} {t0 : List UInt8} (hk : k < 4) (hb : HasBits s p ([l] ++ numB k 2)) : stepM M0 s ⟨p, t0, 0, false⟩ = kindM l k s ⟨p + 3, t0, 0, false⟩ := by
 have h1 := bit_read (b := []) hb.left t0 false
 have h2 := num_read (s := s) t0 false 2 k (p + 1) (by omega) (by simpa using hb.right)
 rw [stepM_head rfl rfl]
 unfold headM
 rw [h1]
 simp only
 rw [h2]
/-- A block of kind 1. -/
theorem coded_piece {t : List UInt8} {b : List Nat} (h : Dec t b) {s : ByteArray} {p l : Nat} {t0 : List UInt8} (hb : HasBits s p ([l] ++ numB 1 2 ++ (b ++ symB 256))) (hl : t0.length + t.length ≤ 5000) :
 Steps s M0 ⟨p, t0, 0, false⟩ ⟨l == 1, 0, none⟩ ⟨p + b.length + 10, t0 ++ t, 0, false⟩ := by
 have hst := head_read (t0 := t0) (by omega) hb.left
 have hb2 : HasBits s (p + 3) (b ++ symB 256) := by simpa [numB_length] using hb.right
 have hc := h.stop hb2 hl
 have h1 := hb2.1
 have eb : blockF s 1 ⟨p + 3, t0, 0, false⟩ = ⟨p + b.length + 10, t0 ++ t, 0, false⟩ := by
  unfold blockF
  rw [if_neg (by omega), if_pos rfl, hc]
  rw [show p + 3 + b.length + 7 = p + b.length + 10 by omega]
 have k := (kind_goes s l 1 ⟨p + 3, t0, 0, false⟩ rfl ⟨by show p + 3 ≤ _; omega, by show t0.length ≤ 5000; omega⟩ M0 ⟨p, t0, 0, false⟩ M0_over hst).1
 rw [eb] at k
 exact k rfl
/-- The bits of a block of kind 0 ahead of its bytes. -/
def bareB (l pad n : Nat) : List Nat := [l] ++ numB 0 2 ++ List.replicate pad 0 ++ numB n 16 ++ numB (65535 - n) 16
theorem bareB_length (l pad n : Nat) : (bareB l pad n).length = 35 + pad := by
 unfold bareB
 simp only [List.length_append, List.length_replicate, numB_length, List.length_singleton]
 omega
/-- A block of kind 0. -/
theorem bare_piece {s : ByteArray} {p l pad q : Nat} {t0 t : List UInt8} (hb : HasBits s p (bareB l pad t.length)) (hpad : p + 3 + pad = 8 * q) (hp8 : pad < 8) (ht : HasAt s (q + 4) t) (hl : t0.length + t.length ≤ 5000) :
 Steps s M0 ⟨p, t0, 0, false⟩ ⟨l == 1, 0, none⟩ ⟨8 * (q + 4 + t.length), t0 ++ t, 0, false⟩ := by
 unfold bareB at hb
 have hst := head_read (t0 := t0) (by omega) hb.left.left.left
 have hb3 : HasBits s (8 * q) (numB t.length 16) := by
  have := hb.left.right
  simp only [List.length_append, List.length_replicate, numB_length, List.length_singleton] at this
  rw [show p + (1 + 2 + pad) = 8 * q by omega] at this
  exact this
 have hb4 : HasBits s (8 * q + 16) (numB (65535 - t.length) 16) := by
  have := hb.right
  simp only [List.length_append, List.length_replicate, numB_length, List.length_singleton] at this
  rw [show p + (1 + 2 + pad + 16) = 8 * q + 16 by omega] at this
  exact this
 have hn1 := num_read (s := s) t0 false 16 t.length (8 * q) (by omega) hb3
 have hn2 := num_read (s := s) t0 false 16 (65535 - t.length) (8 * q + 16) (by omega) hb4
 have hby := bytes_run s false t (q + 4) t0 ht hl
 have h1 := hb4.1
 have hh : plainHead s ⟨p + 3, t0, 0, false⟩ = (t.length, ⟨8 * (q + 4), t0, 0, false⟩) := by
  have ea : alignF ⟨p + 3, t0, 0, false⟩ = ⟨8 * q, t0, 0, false⟩ := by
   unfold alignF
   show (⟨(p + 3 + 7) / 8 * 8, t0, 0, false⟩ : St) = _
   rw [show (p + 3 + 7) / 8 * 8 = 8 * q by omega]
  rw [plainHead_of]
  unfold plainHOf
  simp only
  rw [ea, hn1]
  simp only
  rw [hn2]
  simp only
  unfold headEnd
  rw [if_neg (by omega), show 8 * q + 16 + 16 = 8 * (q + 4) by omega]
 have eb : blockF s 0 ⟨p + 3, t0, 0, false⟩ = ⟨8 * (q + 4 + t.length), t0 ++ t, 0, false⟩ := by
  unfold blockF plainF
  rw [if_pos rfl, hh]
  exact hby
 have k := (kind_goes s l 0 ⟨p + 3, t0, 0, false⟩ rfl ⟨by show p + 3 ≤ _; rw [numB_length] at h1; omega, by show t0.length ≤ 5000; omega⟩ M0 ⟨p, t0, 0, false⟩ M0_over hst).1
 rw [eb] at k
 exact k rfl
/-- A piece of a stream: where its bytes are met, at a whole byte, the text is read, and no more. -/
structure PieceOk (T P : ByteArray) : Prop where
 go : ∀ (S : ByteArray) (k : Nat) (t0 : List UInt8), HasAt S k P.data.toList → t0.length + T.size ≤ 5000 → Steps S M0 ⟨8 * k, t0, 0, false⟩ M0 ⟨8 * (k + P.size), t0 ++ T.data.toList, 0, false⟩
 len : P.size ≤ T.size + 5
 one : 1 ≤ P.size
/-- A stream's end. -/
structure EndOk (T P : ByteArray) : Prop where
 go : ∀ (S : ByteArray) (k : Nat) (t0 : List UInt8), HasAt S k P.data.toList → t0.length + T.size ≤ 5000 → ∃ p, (p + 7) / 8 = k + P.size ∧ Steps S M0 ⟨8 * k, t0, 0, false⟩ ⟨true, 0, none⟩ ⟨p, t0 ++ T.data.toList, 0, false⟩
 len : P.size ≤ T.size + 5
 one : 1 ≤ P.size
theorem size_of_list (l : List UInt8) : (⟨l.toArray⟩ : ByteArray).size = l.length := by simp [ByteArray.size]
theorem list_size (T : ByteArray) : T.data.toList.length = T.size := Array.length_toList
/-- What the two ways of writing a piece give. -/
theorem bare_ok {T : ByteArray} {bs : List UInt8} (hs : PB bs (bareB 0 5 T.size)) : PieceOk T ⟨(bs ++ T.data.toList).toArray⟩ := by
 have hl := hs.len
 rw [bareB_length] at hl
 have h5 : bs.length = 5 := by omega
 refine ⟨fun S k t0 ha hl2 => ?_, by rw [size_of_list, List.length_append, list_size]; omega, by rw [size_of_list, List.length_append]; omega⟩
 have ha' : HasAt S k (bs ++ T.data.toList) := ha
 have h2 := ha'.rightOf
 rw [h5] at h2
 rw [← list_size] at hs
 have k1 := bare_piece (s := S) (p := 8 * k) (q := k + 1) (t0 := t0) (hs.hasAt ha'.leftOf) (by omega) (by omega) h2 (by rw [list_size]; exact hl2)
 rw [size_of_list, List.length_append, h5]
 have e : 8 * (k + 1 + 4 + T.data.toList.length) = 8 * (k + (5 + T.data.toList.length)) := by omega
 rw [e] at k1
 exact k1
theorem bare_end {T : ByteArray} {bs : List UInt8} (hs : PB bs (bareB 1 5 T.size)) : bs.length = 5 ∧ EndOk T ⟨(bs ++ T.data.toList).toArray⟩ := by
 have hl := hs.len
 rw [bareB_length] at hl
 have h5 : bs.length = 5 := by omega
 refine ⟨h5, fun S k t0 ha hl2 => ⟨8 * (k + (5 + T.data.toList.length)), by rw [size_of_list, List.length_append, h5]; omega, ?_⟩, by rw [size_of_list, List.length_append, list_size]; omega, by rw [size_of_list, List.length_append]; omega⟩
 have ha' : HasAt S k (bs ++ T.data.toList) := ha
 have h2 := ha'.rightOf
 rw [h5] at h2
 rw [← list_size] at hs
 have k1 := bare_piece (s := S) (p := 8 * k) (q := k + 1) (t0 := t0) (hs.hasAt ha'.leftOf) (by omega) (by omega) h2 (by rw [list_size]; exact hl2)
 have e : 8 * (k + 1 + 4 + T.data.toList.length) = 8 * (k + (5 + T.data.toList.length)) := by omega
 rw [e] at k1
 exact k1
theorem sym256_length : (symB 256).length = 7 := by rw [symB_length]; rfl
/-- A block of kind 1, with an empty one of kind 0 behind. -/
theorem coded_go {T : ByteArray} {bs : List UInt8} {b : List Nat} {pad : Nat} (hA : AllR T T.size b) (hpad : (b.length + 13 + pad) % 8 = 0) (hp8 : pad < 8) (hp : PB bs ([0] ++ numB 1 2 ++ (b ++ symB 256) ++ bareB 0 pad 0)) (S : ByteArray) (k : Nat) (t0 : List UInt8) (ha : HasAt S k bs) (hl : t0.length + T.size ≤ 5000) :
 Steps S M0 ⟨8 * k, t0, 0, false⟩ M0 ⟨8 * (k + bs.length), t0 ++ T.data.toList, 0, false⟩ := by
 have h0 := hp.hasAt ha
 have hlen := hp.len
 simp only [List.length_append, numB_length, List.length_singleton, sym256_length, bareB_length] at hlen
 have hd := hA.dec
 rw [pre_whole] at hd
 have k1 := coded_piece hd (t0 := t0) h0.left (by rw [list_size]; exact hl)
 have h2 := h0.right
 simp only [List.length_append, numB_length, List.length_singleton, sym256_length] at h2
 have ha1 := ha.1
 have k2 := bare_piece (s := S) (p := 8 * k + b.length + 10) (l := 0) (pad := pad) (q := k + (b.length + 13 + pad) / 8) (t0 := t0 ++ T.data.toList) (t := []) (by rw [show 8 * k + b.length + 10 = 8 * k + (1 + 2 + (b.length + 7)) by omega]; exact h2) (by omega) hp8 ⟨by simp; omega, fun j hj => by simp at hj⟩ (by rw [List.length_append, list_size]; simp; omega)
 have e : 8 * (k + (b.length + 13 + pad) / 8 + 4 + ([] : List UInt8).length) = 8 * (k + bs.length) := by simp only [List.length_nil]; omega
 rw [e, List.append_nil] at k2
 exact k1.trans k2
theorem coded_end {T : ByteArray} {bs : List UInt8} {b : List Nat} (hA : AllR T T.size b) (hp : PB bs ([1] ++ numB 1 2 ++ (b ++ symB 256))) (S : ByteArray) (k : Nat) (t0 : List UInt8) (ha : HasAt S k bs) (hl : t0.length + T.size ≤ 5000) :
 ∃ p, (p + 7) / 8 = k + bs.length ∧ Steps S M0 ⟨8 * k, t0, 0, false⟩ ⟨true, 0, none⟩ ⟨p, t0 ++ T.data.toList, 0, false⟩ := by
 have h0 := hp.hasAt ha
 have hlen := hp.len
 simp only [List.length_append, numB_length, List.length_singleton, sym256_length] at hlen
 have hd := hA.dec
 rw [pre_whole] at hd
 have k1 := coded_piece hd (t0 := t0) h0 (by rw [list_size]; exact hl)
 exact ⟨8 * k + b.length + 10, by omega, k1⟩
/-- The whole of a stream of one piece. -/
theorem EndOk.run {T P : ByteArray} (h : EndOk T P) (hT : T.size ≤ 5000) : ∃ p, runF P = ⟨p, T.data.toList, 0, true⟩ ∧ (p + 7) / 8 = P.size := by
 obtain ⟨p, hp, k⟩ := h.go P 0 [] (HasAt.self P.data.toList) (by simpa using hT)
 have g := k 0 ⟨true, 0, none⟩ ⟨p, [] ++ T.data.toList, 0, false⟩ (Goes.done ⟨rfl, rfl, rfl⟩)
 obtain ⟨e1, e2, e3, e4⟩ := runF_of (s := P) g
 rw [List.nil_append] at e2
 refine ⟨p, ?_, by omega⟩
 have e4' := e4 rfl
 have : runF P = ⟨(runF P).pos, (runF P).text, (runF P).why, (runF P).fin⟩ := rfl
 rw [this, e1, e2, e3, e4']
 rfl
/- The program's stored and coded. -/
theorem conv_own {B : Nat} {w : World} {v : Value} {bs : List UInt8} (ho : w.ownsRow B 5 1 v bs.length (byteVals bs)) : (convert 80 9 v).run Tryz.prog w = .ok (.string ⟨bs.toArray⟩) w := by
 obtain ⟨h1, h2⟩ := ho
 rcases h2 with ⟨h2, h3⟩ | ⟨g, cap, cur, hv, _⟩
 ·
  have e : bs = [] := List.eq_nil_of_length_eq_zero h3
  rw [h2, e]
  exact Go.Lib.run_convert_nil_bytes (P := Tryz.prog) _ 80 9 5 0 Tryz.underlying80 Tryz.underlying5 Tryz.underlying9
 ·
  have ho : w.ownsRow B 5 1 v bs.length (byteVals bs) := ⟨h1, Or.inr ⟨g, cap, cur, hv, by assumption⟩⟩
  rw [hv]
  refine run_convert_bytes_back (P := Tryz.prog) w 80 9 5 ⟨g, 0, none⟩ cap bs Tryz.underlying80 Tryz.underlying5 Tryz.underlying9 (fun j hj => ?_)
  have e := ho.cells (g := g) (by rw [hv]; rfl) j _ (byteVals_at bs j hj)
  have e2 : bs.getD j 0 = bs[j] := by rw [List.getD_eq_getElem?_getD, List.getElem?_eq_getElem hj]; rfl
  rw [e2] at e
  exact e
theorem pnum_int (B gx v n : Nat) (V : Int) (b : List Nat) (vs vd vb : Value) (w : World) (hV : V = (v : Int)) (h : Pn B w gx b vs vd vb) (hB : B ≤ w.heap.size) (hl : b.length + n ≤ 1000000) (hv : v < 65536) (hn : n ≤ 16) :
 Calls Tryz.prog 79 #[.pointer (some ⟨gx, 0, none⟩), .int .i64 V, .int .i64 (n : Int)] w fun e w' => e = .returned (.tuple #[]) ∧ RunsP B w w' gx (b ++ numB v n) vs vd vb := by
 subst hV; exact pnum_any B gx v n b vs vd vb w h hB hl hv hn
theorem Pn.setVs {B : Nat} {w : World} {gx : Nat} {b : List Nat} {vs vd vb : Value} (h : Pn B w gx b vs vd vb) (v : Value) : Pn B (w.setCell ⟨gx, 2, none⟩ v) gx b v vd vb := by
 obtain ⟨bs, hpb, q1, q2⟩ := h.own
 refine ⟨h.le, (h.row.set 2 _).congr (fun i hi => ?_), ⟨bs, hpb, q1, ?_⟩, h.ne⟩
 · rcases (by omega : i = 0 ∨ i = 1 ∨ i = 2 ∨ i = 3) with e | e | e | e <;> subst e <;> simp
 ·
  rcases q2 with q2 | ⟨g, cap, cur, hv, hg, hh, r⟩
  · exact Or.inl q2
  · exact Or.inr ⟨g, cap, cur, hv, hg, by rw [Below.heap_setCell _ _ _ _ (by intro e; exact h.ne (by rw [hv]; show some g = some gx; rw [e]))]; exact hh, r⟩
theorem Pn.setVd {B : Nat} {w : World} {gx : Nat} {b : List Nat} {vs vd vb : Value} (h : Pn B w gx b vs vd vb) (v : Value) : Pn B (w.setCell ⟨gx, 3, none⟩ v) gx b vs v vb := by
 obtain ⟨bs, hpb, q1, q2⟩ := h.own
 refine ⟨h.le, (h.row.set 3 _).congr (fun i hi => ?_), ⟨bs, hpb, q1, ?_⟩, h.ne⟩
 · rcases (by omega : i = 0 ∨ i = 1 ∨ i = 2 ∨ i = 3) with e | e | e | e <;> subst e <;> simp
 ·
  rcases q2 with q2 | ⟨g, cap, cur, hv, hg, hh, r⟩
  · exact Or.inl q2
  · exact Or.inr ⟨g, cap, cur, hv, hg, by rw [Below.heap_setCell _ _ _ _ (by intro e; exact h.ne (by rw [hv]; show some g = some gx; rw [e]))]; exact hh, r⟩
theorem Pn.later {B : Nat} {w w1 : World} {gx : Nat} {b : List Nat} {vs vd vb : Value} (h : Pn B w gx b vs vd vb) (hb : Below w.heap.size w w1) : Pn B w1 gx b vs vd vb := by
 obtain ⟨bs, hpb, q1, q2⟩ := h.own
 refine ⟨h.le, h.row.of_block (hb.block gx h.row.lt), ⟨bs, hpb, q1, ?_⟩, h.ne⟩
 rcases q2 with q2 | ⟨g, cap, cur, hv, hg, hh, r⟩
 · exact Or.inl q2
 · exact Or.inr ⟨g, cap, cur, hv, hg, (hb.block g (Array.getElem?_eq_some_iff.1 hh).1).trans hh, r⟩
/-- A writer behind a block of kind 0: its bytes. -/
structure Wo (B : Nat) (w : World) (gx : Nat) (l : List UInt8) (vs vd vb : Value) : Prop where
 le : B ≤ gx
 row : w.rowIs gx 127 4 (fun i => if i = 0 then vb else if i = 1 then .int .i64 0 else if i = 2 then vs else vd)
 own : w.ownsRow B 5 1 vb l.length (byteVals l)
 ne : vb.ownBlock ≠ some gx
/-- What stored leaves. -/
def StoP (B : Nat) (w : World) (gx l pad : Nat) (b : List Nat) (T : ByteArray) (vs vd vb : Value) (e : Ending) (w' : World) : Prop :=
 e = .returned (.tuple #[]) ∧ ∃ bs vb', PB bs (b ++ bareB l pad T.size) ∧ Wo B w' gx (bs ++ T.data.toList) vs vd vb' ∧ Kp w w' gx vb
theorem own_tag {B : Nat} {w : World} {v : Value} {n : Nat} {l : List Value} (h : w.ownsRow B 5 1 v n l) {g : Nat} {f : Nat → Value} {k : Nat} (hr : w.rowIs g 127 k f) : v.ownBlock ≠ some g := fun e => by
 obtain ⟨_, q⟩ := h
 rcases q with ⟨q, _⟩ | ⟨g2, cap, cur, hv, _, hh, _⟩
 · rw [q] at e; simp [Value.ownBlock] at e
 ·
  rw [hv] at e
  have e2 : g2 = g := Option.some.inj e
  obtain ⟨c, hc, _⟩ := hr
  rw [e2, hc] at hh
  simp at hh
set_option maxRecDepth 4000 in
set_option maxHeartbeats 1000000 in
theorem wstored_any (B gx l pad : Nat) (b : List Nat) (T : ByteArray) (vs vd vb : Value) (w : World) (h : Pn B w gx b vs vd vb) (hB : B ≤ w.heap.size) (hb : b.length + 200 ≤ 1000000) (hl : l < 2) (hT : T.size ≤ 5000) (hpad : (b.length + 3 + pad) % 8 = 0) (hp8 : pad < 8) :
 Calls Tryz.prog 58 #[.pointer (some ⟨gx, 0, none⟩), .int .i64 (l : Int), .string T] w (StoP B w gx l pad b T vs vd vb) := by
 obtain ⟨i0, hi0, hz0, hs0, hby⟩ := info_parts Tryz.info5
 go_enter Tryz.func58, Tryz.ntmps58
 go_wp2_with fail
 refine (pbegin_any B gx l 0 b _ _ _ _ h hB (by omega) hl (by omega)).mono ?_
 rintro e w1 ⟨rfl, v1, p1, k1, f1⟩
 go_wp2_with fail
 refine (pwhole_any B gx pad _ _ _ _ _ p1 (by simp only [List.length_append, numB_length, List.length_singleton]; omega) hp8).mono ?_
 rintro e w2 ⟨rfl, r2⟩
 obtain ⟨v2, p2, k2, f2⟩ := RunsP.trans k1 f1 r2
 clear r2 p1 k1 f1
 go_wp2_with fail
 refine (pnum_any B gx T.size 16 _ _ _ _ _ p2 (Nat.le_trans hB k2.size) (by simp only [List.length_append, numB_length, List.length_singleton, List.length_replicate]; omega) (by omega) (by omega)).mono ?_
 rintro e w3 ⟨rfl, r3⟩
 obtain ⟨v3, p3, k3, f3⟩ := RunsP.trans k2 f2 r3
 clear r3 p2 k2 f2
 go_wp2_with fail
 refine (pnum_int B gx (65535 - T.size) 16 _ _ _ _ _ _ (by omega) p3 (Nat.le_trans hB k3.size) (by simp only [List.length_append, numB_length, List.length_singleton, List.length_replicate]; omega) (by omega) (by omega)).mono ?_
 rintro e w4 ⟨rfl, r4⟩
 obtain ⟨v4, p4, k4, f4⟩ := RunsP.trans k3 f3 r4
 clear r4 p3 k3 f3
 have HB : Hid (b ++ ([l] ++ numB 0 2) ++ List.replicate pad 0 ++ numB T.size 16 ++ numB (65535 - T.size) 16 = b ++ bareB l pad T.size) := by
  show _ = _
  unfold bareB
  simp only [List.append_assoc]
 rw [HB.out] at p4
 have c0 := p4.c0
 have z0 := p4.fz 0
 have hB4 := Nat.le_trans hB k4.size
 obtain ⟨bs, hpb, hown⟩ := p4.own
 have hlen := hpb.len
 rw [List.length_append, bareB_length] at hlen
 have hl5 : bs.length ≤ 200000 := by omega
 have hm8 : (b ++ bareB l pad T.size).length % 8 = 0 := by rw [List.length_append, bareB_length]; omega
 have HP : Hid (_) := p4
 have HK : Hid (_) := k4
 have HF : Hid (_) := f4
 clear HB hlen p4 k4 f4
 go_wp2_with (first | (at_builtin; refine Lib.wpList_append_own_string _ rfl (.tmp 31) (.tmp 32) 80 9 rfl B 5 i0 Tryz.underlying80 Tryz.underlying9 hi0 hz0 hs0 hby v4 bs.length _ rfl hown T rfl (by unfold maxLen; omega) (by omega) hB4 ?_) | fail)
 intro v5 w5 ho5 hg5 _
 have ho6 : w5.ownsRow B 5 1 v5 (bs ++ T.data.toList).length (byteVals (bs ++ T.data.toList)) := by
  have e1 : (bs ++ T.data.toList).length = bs.length + T.size := by rw [List.length_append, Array.length_toList]; rfl
  have e2 : byteVals (bs ++ T.data.toList) = byteVals bs ++ Lib.strCells T := by unfold byteVals Lib.strCells; rw [List.map_append]
  rw [e1, e2]; exact ho5
 obtain ⟨ao5, n5, cp5, hv5⟩ : ∃ ao n cp, v5 = .slice ao n cp := by
  obtain ⟨_, q⟩ := ho6
  rcases q with ⟨q, _⟩ | ⟨g, cap, cur, q, _⟩
  · exact ⟨_, _, _, q⟩
  · exact ⟨_, _, _, q⟩
 have p4 := HP.out
 have hgl := p4.row.lt
 have hgx5 : w5.heap[gx]? = w4.heap[gx]? := hg5.block gx hgl (fun e => p4.ne e.symm)
 have hrow5 := p4.row.of_block hgx5
 have hne5 := own_tag ho6 hrow5
 have d0 : w5.cell? ⟨gx, 0, none⟩ = some v4 := by simpa using hrow5.cell (i := 0) (by omega)
 have y0 := hrow5.frozen 0
 have P : StoP B w gx l pad b T vs vd vb (.returned (.tuple #[])) (w5.setCell ⟨gx, 0, none⟩ v5) := by
  refine ⟨rfl, bs, v5, hpb, ⟨p4.le, ?_, ?_, hne5⟩, ?_⟩
  ·
   refine (hrow5.set 0 v5).congr (fun i _ => ?_)
   show (if i = 0 then v5 else if i = 0 then v4 else if i = 1 then Value.int .i64 ((b ++ bareB l pad T.size).length % 8 : Nat) else if i = 2 then vs else vd) = _
   rw [hm8]
   by_cases e0 : i = 0
   · rw [if_pos e0, if_pos e0]
   · rw [if_neg e0, if_neg e0, if_neg e0]; rfl
  ·
   obtain ⟨q1, q2⟩ := ho6
   refine ⟨q1, ?_⟩
   rcases q2 with q2 | ⟨g, cap, cur, hv, hg, hh, r⟩
   · exact Or.inl q2
   · exact Or.inr ⟨g, cap, cur, hv, hg, by rw [Below.heap_setCell _ _ _ _ (by intro e; exact hne5 (by rw [hv]; show some g = some gx; rw [e]))]; exact hh, r⟩
  ·
   have k4 := HK.out
   refine ⟨hg5.os.trans k4.os, hg5.tape.trans k4.tape, hg5.output.trans k4.output, by simp [World.setCell]; exact Nat.le_trans k4.size hg5.size, fun c hc hx hv => ?_⟩
   rw [Below.heap_setCell _ _ _ _ hx, hg5.block c (Nat.lt_of_lt_of_le hc k4.size) (fun e => ?_), k4.block c hc hx hv]
   rcases HF.out c e.symm with e2 | e2
   · exact hv e2
   · omega
 clear ho5 ho6 hg5 hown c0 hrow5 hgx5 p4 HP HK HF hpb hm8 hne5
 subst hv5
 go_wp2
 go_end0
 exact P
/-- What coded leaves. -/
def CodP (B : Nat) (w : World) (gx l : Nat) (T : ByteArray) (vb : Value) (e : Ending) (w' : World) : Prop :=
 e = .returned (.tuple #[]) ∧ ∃ b gs gd, AllR T T.size b ∧ RunsW B w w' gx ([l] ++ numB 1 2 ++ (b ++ symB 256)) gs gd vb
set_option maxRecDepth 4000 in
set_option maxHeartbeats 2000000 in
theorem wcoded_any (B gx l : Nat) (T : ByteArray) (vs vd vb : Value) (w : World) (h0 : Pn B w gx [] vs vd vb) (hB : B ≤ w.heap.size) (hl : l < 2) (hT : T.size ≤ 5000) :
 Calls Tryz.prog 57 #[.pointer (some ⟨gx, 0, none⟩), .int .i64 (l : Int), .string T] w (CodP B w gx l T vb) := by
 have hgx := h0.row.lt
 have hvl : ∀ g, vb.ownBlock = some g → g < w.heap.size := fun g e => by
  obtain ⟨bs, _, hown⟩ := h0.own
  exact (hown.lt g e).2
 go_enter Tryz.func57, Tryz.ntmps57
 go_wp2_with fail
 refine (fixedSymbols_any _).mono ?_
 rintro e w1 ⟨g1, cq1, rfl, o1, b1⟩
 go_wp2_with fail
 refine (texts_any g1 0 288 cq1 fixZ _ o1.ints (by omega)).mono ?_
 rintro e w2 (⟨hf, rfl, hb⟩ | ⟨hf, gs, rfl, hgs, hrow, b2⟩)
 · rw [fix_fit] at hf; exact absurd hf (by simp)
 have hs1 := b1.size
 have b12 := b1.trans (b2.mono hs1)
 have hs2 := b12.size
 have h2 := h0.later b12
 have c2 := h2.c2
 have f2 := h2.fz 2
 have k2 := (kp_of_below b12 gx vb).set 2 (.slice (some ⟨gs, 0, none⟩) 288 288)
 have h3 := h2.setVs (.slice (some ⟨gs, 0, none⟩) 288 288)
 have hgs0 : w.heap.size ≤ gs := by omega
 have hrow3 := hrow.setOther (a := ⟨gx, 2, none⟩) (by show gs ≠ gx; omega) (.slice (some ⟨gs, 0, none⟩) 288 288)
 have hs3 : (w2.setCell ⟨gx, 2, none⟩ (.slice (some ⟨gs, 0, none⟩) 288 288)).heap.size = w2.heap.size := by simp [World.setCell]
 clear o1 b1 b2 b12 hrow hf
 go_wp2_with fail
 clear c2 f2 h2 h0
 generalize w2.setCell ⟨gx, 2, none⟩ (.slice (some ⟨gs, 0, none⟩) 288 288) = w3 at h3 hrow3 k2 hs3 ⊢
 refine (fixedDistances_any _).mono ?_
 rintro e w4 ⟨g4, cq4, rfl, o4, b4⟩
 go_wp2_with fail
 refine (texts_any g4 0 32 cq4 fivZ _ o4.ints (by omega)).mono ?_
 rintro e w5 (⟨hf, rfl, hb⟩ | ⟨hf, gd, rfl, hgd, hrow5, b5⟩)
 · rw [fiv_fit] at hf; exact absurd hf (by simp)
 have hs4 := b4.size
 have b45 := b4.trans (b5.mono hs4)
 have hs5 := b45.size
 have h5 := h3.later b45
 have c3 := h5.c3
 have f3 := h5.fz 3
 have hl3 := hrow3.lt
 have k5 := (k2.trans (kp_of_below b45 gx vb)).set 3 (.slice (some ⟨gd, 0, none⟩) 32 32)
 have hrow6 := (hrow3.of_block (b45.block gs hl3)).setOther (a := ⟨gx, 3, none⟩) (by show gs ≠ gx; omega) (.slice (some ⟨gd, 0, none⟩) 32 32)
 have hrow7 := hrow5.setOther (a := ⟨gx, 3, none⟩) (by show gd ≠ gx; omega) (.slice (some ⟨gd, 0, none⟩) 32 32)
 have h6 : Wr B (w5.setCell ⟨gx, 3, none⟩ (.slice (some ⟨gd, 0, none⟩) 32 32)) gx [] gs gd vb := ⟨h5.setVd _, hrow6, hrow7, ⟨by omega, fun e => by have := hvl _ e; omega⟩, ⟨by omega, fun e => by have := hvl _ e; omega⟩⟩
 clear o4 b4 b5 b45 hrow5 hrow6 hrow7 hrow3 hl3 hf k2
 go_wp2_with fail
 clear c3 f3 h5 h3
 generalize w5.setCell ⟨gx, 3, none⟩ (.slice (some ⟨gd, 0, none⟩) 32 32) = w6 at h6 k5 ⊢
 have hB6 := Nat.le_trans hB k5.size
 refine (pbegin_any B gx l 1 [] _ _ _ _ h6.pn hB6 (by simp) hl (by omega)).mono ?_
 rintro e w7 ⟨rfl, r7⟩
 rw [List.nil_append] at r7
 obtain ⟨v7, h7, k7, f7⟩ := RunsW.trans k5 (fun _ hg => Or.inl hg) (h6.runs r7)
 have hB7 := Nat.le_trans hB k7.size
 clear r7 h6
 go_wp2_with fail
 refine (wall_any B gx gs gd _ v7 T _ h7 hB7 (by simp [numB_length]) hT).mono ?_
 rintro e w8 ⟨rfl, b, hAll, r8⟩
 obtain ⟨v8, h8, k8, f8⟩ := RunsW.trans k7 f7 r8
 have hB8 := Nat.le_trans hB k8.size
 have c28 := h8.pn.c2
 have cs := h8.syms.cell (i := 256) (by omega)
 have hlb := hAll.len
 clear r8 h7 k7 f7
 have hcI : ((256 : Nat) : Int) < 288 := by omega
 go_wp2
 go_region_with (go_at_call 77; refine (wsym_any B gx gs gd 256 ([l] ++ numB 1 2 ++ b) v8 w8 _ rfl h8 hB8 (by simp only [List.length_append, numB_length, List.length_singleton]; omega) (by omega)).mono ?_; rintro e w9 ⟨rfl, r9⟩)
 have R := RunsW.trans k8 f8 r9
 rw [List.append_assoc] at R
 clear r9 h8 k8 f8 c28 cs
 go_wp2
 go_end0
 exact ⟨rfl, b, gs, gd, hAll, R⟩
/- The program's Write and Deflate. -/
/-- What Deflate answers of a text that is not too long. -/
structure DefOk (T S : ByteArray) : Prop where
 run : ∃ p, runF S = ⟨p, T.data.toList, 0, true⟩ ∧ (p + 7) / 8 = S.size
 one : 1 ≤ S.size
 len : S.size ≤ T.size + T.size / 8 + 16
 uni : Uni T → S.size ≤ T.size / 20 + 32
 le : S.size ≤ 100000
theorem def_ok {T : ByteArray} {bs b1 : List UInt8} {b : List Nat} (hT : T.size ≤ 5000) (hA : AllR T T.size b) (hp : PB b1 ([1] ++ numB 1 2 ++ (b ++ symB 256))) (hs : PB bs (bareB 1 5 T.size)) :
 ((bs ++ T.data.toList).length < b1.length → DefOk T ⟨(bs ++ T.data.toList).toArray⟩ ∧ EndOk T ⟨(bs ++ T.data.toList).toArray⟩) ∧ (¬ (bs ++ T.data.toList).length < b1.length → DefOk T ⟨b1.toArray⟩ ∧ EndOk T ⟨b1.toArray⟩) := by
 have h1 := hp.len
 simp only [List.length_append, numB_length, List.length_singleton, sym256_length] at h1
 obtain ⟨h5, e2⟩ := bare_end hs
 have hsz : (bs ++ T.data.toList).length = 5 + T.size := by rw [List.length_append, list_size]; omega
 have hb32 := hA.len
 refine ⟨fun hc => ⟨⟨e2.run hT, e2.one, ?_, fun hu => ?_, ?_⟩, e2⟩, fun hc => ?_⟩
 · rw [size_of_list, hsz]; omega
 ·
  have := hA.short hu
  rw [size_of_list, hsz]; omega
 · rw [size_of_list, hsz]; omega
 ·
  have e1 : EndOk T ⟨b1.toArray⟩ := ⟨fun S k t0 ha hl => by rw [size_of_list]; exact coded_end hA hp S k t0 ha hl, by rw [size_of_list]; omega, by rw [size_of_list]; omega⟩
  refine ⟨⟨e1.run hT, e1.one, ?_, fun hu => ?_, ?_⟩, e1⟩
  · rw [size_of_list]; omega
  ·
   have := hA.short hu
   rw [size_of_list]; omega
  · rw [size_of_list]; omega
/-- The shorter one. -/
def shortL (a b : List UInt8) : ByteArray := if b.length < a.length then ⟨b.toArray⟩ else ⟨a.toArray⟩
theorem own_slice {B : Nat} {w : World} {v : Value} {l : List UInt8} (h : w.ownsRow B 5 1 v l.length (byteVals l)) : ∃ ao cap, v = .slice ao l.length cap := by
 obtain ⟨_, q⟩ := h
 rcases q with ⟨q, q0⟩ | ⟨g, cap, cur, q, _⟩
 · exact ⟨none, 0, by rw [q, q0]⟩
 · exact ⟨_, _, q⟩
set_option maxRecDepth 4000 in
set_option maxHeartbeats 400000 in
theorem shorter_any (B B' : Nat) (v1 v2 u1 u2 s1 s2 d1 d2 : Value) (l1 l2 : List UInt8) (w : World) (h1 : w.ownsRow B 5 1 v1 l1.length (byteVals l1)) (h2 : w.ownsRow B' 5 1 v2 l2.length (byteVals l2)) :
 Calls Tryz.prog 59 #[.agg #[v1, u1, s1, d1], .agg #[v2, u2, s2, d2]] w fun e w' => e = .returned (.string (shortL l1 l2)) ∧ Below w.heap.size w w' := by
 obtain ⟨a1, c1, e1⟩ := own_slice h1
 obtain ⟨a2, c2, e2⟩ := own_slice h2
 have cv1 := conv_own ((h1.alloc (.cells #[v1, u1, s1, d1] 127)).alloc (.cells #[v2, u2, s2, d2] 127))
 have cv2 := conv_own ((h2.alloc (.cells #[v1, u1, s1, d1] 127)).alloc (.cells #[v2, u2, s2, d2] 127))
 have hBe : Below w.heap.size w ((w.alloc (.cells #[v1, u1, s1, d1] 127)).alloc (.cells #[v2, u2, s2, d2] 127)) := ((Below.refl _ _).alloc (Nat.le_refl _) _).alloc (by simp) _
 rw [e1, e2] at hBe
 rw [e1, e2] at cv1
 rw [e1, e2] at cv2
 have HS : Hid (shortL l1 l2 = if l2.length < l1.length then ⟨l2.toArray⟩ else ⟨l1.toArray⟩) := rfl
 subst e1 e2
 clear h1 h2
 generalize l1.length = n1 at cv1 cv2 HS hBe ⊢
 generalize l2.length = n2 at cv1 cv2 HS hBe ⊢
 by_cases hc : n2 < n1
 ·
  have hcI : (n2 : Int) < (n1 : Int) := by omega
  have HE : Hid (shortL l1 l2 = ⟨l2.toArray⟩) := by show _ = _; rw [HS.out, if_pos hc]
  rw [HE.out]
  clear HS HE hc
  go_enter Tryz.func59, Tryz.ntmps59
  go_wp2
  go_ret
  exact ⟨rfl, hBe⟩
 ·
  have hcI : ¬ (n2 : Int) < (n1 : Int) := by omega
  have HE : Hid (shortL l1 l2 = ⟨l1.toArray⟩) := by show _ = _; rw [HS.out, if_neg hc]
  rw [HE.out]
  clear HS HE hc
  go_enter Tryz.func59, Tryz.ntmps59
  go_wp2
  go_ret
  exact ⟨rfl, hBe⟩
/-- A new writer. -/
theorem pn_start (w : World) (B : Nat) (hB : B ≤ w.heap.size) : Pn B (w.alloc (.cells #[.slice none 0 0, .int .i64 0, .slice none 0 0, .slice none 0 0] 127)) w.heap.size [] (.slice none 0 0) (.slice none 0 0) (.slice none 0 0) := by
 refine ⟨hB, ?_, ⟨[], PB.start, World.ownsRow_nil _ _ _ _⟩, fun e => by simp [Value.ownBlock] at e⟩
 exact World.rowIs_alloc w #[.slice none 0 0, .int .i64 0, .slice none 0 0, .slice none 0 0] 127 _ (fun i hi => by match i, hi with | 0, _ => rfl | 1, _ => rfl | 2, _ => rfl | 3, _ => rfl)
theorem short_end {T : ByteArray} {bs b1 : List UInt8} {b : List Nat} (hT : T.size ≤ 5000) (hA : AllR T T.size b) (hp : PB b1 ([1] ++ numB 1 2 ++ (b ++ symB 256))) (hs : PB bs (bareB 1 5 T.size)) :
 DefOk T (shortL b1 (bs ++ T.data.toList)) ∧ EndOk T (shortL b1 (bs ++ T.data.toList)) := by
 obtain ⟨d1, d2⟩ := def_ok hT hA hp hs
 unfold shortL
 by_cases hc : (bs ++ T.data.toList).length < b1.length
 · rw [if_pos hc]; exact d1 hc
 · rw [if_neg hc]; exact d2 hc
theorem short_piece {T : ByteArray} {bs b1 : List UInt8} {b : List Nat} {pad : Nat} (hA : AllR T T.size b) (hpad : (b.length + 13 + pad) % 8 = 0) (hp8 : pad < 8) (hp : PB b1 ([0] ++ numB 1 2 ++ (b ++ symB 256) ++ bareB 0 pad 0)) (hs : PB bs (bareB 0 5 T.size)) :
 PieceOk T (shortL b1 (bs ++ T.data.toList)) := by
 have hb := bare_ok hs
 have hl := hs.len
 rw [bareB_length] at hl
 unfold shortL
 by_cases hc : (bs ++ T.data.toList).length < b1.length
 · rw [if_pos hc]; exact hb
 ·
  rw [if_neg hc]
  exact ⟨fun S k t0 ha hl2 => by rw [size_of_list]; exact coded_go hA hpad hp8 hp S k t0 ha hl2, by rw [size_of_list]; rw [List.length_append, list_size] at hc; omega, by
   have h1 := hp.len
   rw [List.length_append, bareB_length] at h1
   rw [size_of_list]
   omega⟩
theorem Pn.frame {B : Nat} {w w' : World} {gx : Nat} {b : List Nat} {vs vd vb : Value} (h : Pn B w gx b vs vd vb) (hx : w'.heap[gx]? = w.heap[gx]?) (hv : ∀ g, vb.ownBlock = some g → w'.heap[g]? = w.heap[g]?) : Pn B w' gx b vs vd vb := by
 obtain ⟨bs, hpb, q1, q2⟩ := h.own
 refine ⟨h.le, h.row.of_block hx, ⟨bs, hpb, q1, ?_⟩, h.ne⟩
 rcases q2 with q2 | ⟨g, cap, cur, hv', hg, hh, r⟩
 · exact Or.inl q2
 · exact Or.inr ⟨g, cap, cur, hv', hg, (hv g (by rw [hv']; rfl)).trans hh, r⟩
theorem Wo.frame {B : Nat} {w w' : World} {gx : Nat} {l : List UInt8} {vs vd vb : Value} (h : Wo B w gx l vs vd vb) (hx : w'.heap[gx]? = w.heap[gx]?) (hv : ∀ g, vb.ownBlock = some g → w'.heap[g]? = w.heap[g]?) : Wo B w' gx l vs vd vb := by
 obtain ⟨q1, q2⟩ := h.own
 refine ⟨h.le, h.row.of_block hx, ⟨q1, ?_⟩, h.ne⟩
 rcases q2 with q2 | ⟨g, cap, cur, hv', hg, hh, r⟩
 · exact Or.inl q2
 · exact Or.inr ⟨g, cap, cur, hv', hg, (hv g (by rw [hv']; rfl)).trans hh, r⟩
theorem Wo.cel {B : Nat} {w : World} {gx : Nat} {l : List UInt8} {vs vd vb : Value} (h : Wo B w gx l vs vd vb) : w.cell? ⟨gx, 0, none⟩ = some vb ∧ w.cell? ⟨gx, 1, none⟩ = some (.int .i64 0) ∧ w.cell? ⟨gx, 2, none⟩ = some vs ∧ w.cell? ⟨gx, 3, none⟩ = some vd :=
 ⟨by simpa using h.row.cell (i := 0) (by omega), by simpa using h.row.cell (i := 1) (by omega), by simpa using h.row.cell (i := 2) (by omega), by simpa using h.row.cell (i := 3) (by omega)⟩
def WriteP (w : World) (T : ByteArray) (e : Ending) (w' : World) : Prop := ∃ S, DefOk T S ∧ EndOk T S ∧ e = .returned (.string S) ∧ Below w.heap.size w w'
set_option maxRecDepth 4000 in
set_option maxHeartbeats 1000000 in
theorem write_any (T : ByteArray) (w : World) (hT : T.size ≤ 5000) : Calls Tryz.prog 32 #[.string T] w (WriteP w T) := by
 have p1 := pn_start w w.heap.size (Nat.le_refl _)
 have p2 := pn_start (w.alloc (.cells #[.slice none 0 0, .int .i64 0, .slice none 0 0, .slice none 0 0] 127)) w.heap.size (by simp)
 have p1' := p1.later ((Below.refl _ _).alloc (Nat.le_refl _) (.cells #[.slice none 0 0, .int .i64 0, .slice none 0 0, .slice none 0 0] 127))
 have e1 : (w.alloc (.cells #[.slice none 0 0, .int .i64 0, .slice none 0 0, .slice none 0 0] 127)).heap.size = w.heap.size + 1 := by simp
 rw [e1] at p2
 have hB0 : Below w.heap.size w ((w.alloc (.cells #[.slice none 0 0, .int .i64 0, .slice none 0 0, .slice none 0 0] 127)).alloc (.cells #[.slice none 0 0, .int .i64 0, .slice none 0 0, .slice none 0 0] 127)) := ((Below.refl _ _).alloc (Nat.le_refl _) _).alloc (by simp) _
 have hz0 : ((w.alloc (.cells #[.slice none 0 0, .int .i64 0, .slice none 0 0, .slice none 0 0] 127)).alloc (.cells #[.slice none 0 0, .int .i64 0, .slice none 0 0, .slice none 0 0] 127)).heap.size = w.heap.size + 2 := by simp
 clear p1 e1
 go_enter Tryz.func32, Tryz.ntmps32
 go_wp2_with fail
 generalize ((w.alloc (.cells #[.slice none 0 0, .int .i64 0, .slice none 0 0, .slice none 0 0] 127)).alloc (.cells #[.slice none 0 0, .int .i64 0, .slice none 0 0, .slice none 0 0] 127)) = W at p1' p2 hB0 hz0 ⊢
 refine (wcoded_any w.heap.size w.heap.size 1 T _ _ _ _ p1' (by omega) (by omega) hT).mono ?_
 rintro e w1 ⟨rfl, b, gs, gd, hA, v1, h1, k1, f1⟩
 have p2' := p2.frame (w' := w1) (k1.block (w.heap.size + 1) (by omega) (by omega) (by simp [Value.ownBlock])) (fun g e => by simp [Value.ownBlock] at e)
 have hz1 := k1.size
 clear p1' p2
 go_wp2_with fail
 refine (wstored_any w.heap.size (w.heap.size + 1) 1 5 [] T _ _ _ _ p2' (by omega) (by simp) (by omega) hT (by simp) (by omega)).mono ?_
 rintro e w2 ⟨rfl, bs, v2, hpb, h2, k2⟩
 rw [List.nil_append] at hpb
 have h1l : ∀ g, v1.ownBlock = some g → g ≠ w.heap.size + 1 := fun g e => by
  rcases f1 g e with e' | e'
  · simp [Value.ownBlock] at e'
  · omega
 have hv1 : ∀ g, v1.ownBlock = some g → g < w1.heap.size := fun g e => by
  obtain ⟨_, _, hown⟩ := h1.pn.own
  exact (hown.lt g e).2
 have h1' := h1.pn.frame (w' := w2) (k2.block w.heap.size (by omega) (by omega) (by simp [Value.ownBlock])) (fun g e => k2.block g (hv1 g e) (h1l g e) (by simp [Value.ownBlock]))
 have hB2 : Below w.heap.size w w2 := ⟨k2.os.trans (k1.os.trans hB0.os), k2.tape.trans (k1.tape.trans hB0.tape), k2.output.trans (k1.output.trans hB0.output), by have := k2.size; omega, fun c hc => by
  rw [k2.block c (by omega) (by omega) (by simp [Value.ownBlock]), k1.block c (by omega) (by omega) (by simp [Value.ownBlock]), hB0.block c hc]⟩
 obtain ⟨b1, hpb1, hown1⟩ := h1'.own
 have hlb := hA.len
 have hl1 := hpb1.len
 have hl2 := hpb.len
 rw [bareB_length] at hl2
 simp only [List.length_append, numB_length, List.length_singleton, sym256_length] at hl1
 have HS := short_end hT hA hpb1 hpb
 have c0 := h1'.c0
 have c1 := h1'.c1
 have c2 := h1'.c2
 have c3 := h1'.c3
 obtain ⟨d0, d1, d2, d3⟩ := h2.cel
 have HO : Hid (_) := shorter_any w.heap.size w.heap.size v1 v2 (.int .i64 (([1] ++ numB 1 2 ++ (b ++ symB 256)).length % 8 : Nat)) (.int .i64 0) (.slice (some ⟨gs, 0, none⟩) 288 288) (.slice none 0 0) (.slice (some ⟨gd, 0, none⟩) 32 32) (.slice none 0 0) b1 (bs ++ T.data.toList) w2 hown1 h2.own
 generalize shortL b1 (bs ++ T.data.toList) = Sx at HS HO
 generalize ([1] ++ numB 1 2 ++ (b ++ symB 256)).length % 8 = uu at c1 HO
 clear h1 h1' h2 k1 k2 hown1 hpb hpb1 hA p2' hB0 h1l hv1 hl1 hl2 f1
 go_wp2_with fail
 refine Calls.mono HO.out ?_
 rintro e w3 ⟨rfl, hb3⟩
 have hB3 := hB2.trans (hb3.mono hB2.size)
 clear HO c0 c1 c2 c3 d0 d1 d2 d3
 go_wp2
 go_ret
 exact ⟨Sx, HS.1, HS.2, rfl, hB3⟩
def PartP (w : World) (T : ByteArray) (e : Ending) (w' : World) : Prop := ∃ S, PieceOk T S ∧ e = .returned (.string S) ∧ Below w.heap.size w w'
/- The program's Part. -/
set_option maxRecDepth 4000 in
set_option maxHeartbeats 1000000 in
theorem part_any (T : ByteArray) (w : World) (hT : T.size ≤ 5000) : Calls Tryz.prog 34 #[.string T] w (PartP w T) := by
 have p1 := pn_start w w.heap.size (Nat.le_refl _)
 have p2 := pn_start (w.alloc (.cells #[.slice none 0 0, .int .i64 0, .slice none 0 0, .slice none 0 0] 127)) w.heap.size (by simp)
 have p1' := p1.later ((Below.refl _ _).alloc (Nat.le_refl _) (.cells #[.slice none 0 0, .int .i64 0, .slice none 0 0, .slice none 0 0] 127))
 have e1 : (w.alloc (.cells #[.slice none 0 0, .int .i64 0, .slice none 0 0, .slice none 0 0] 127)).heap.size = w.heap.size + 1 := by simp
 rw [e1] at p2
 have hB0 : Below w.heap.size w ((w.alloc (.cells #[.slice none 0 0, .int .i64 0, .slice none 0 0, .slice none 0 0] 127)).alloc (.cells #[.slice none 0 0, .int .i64 0, .slice none 0 0, .slice none 0 0] 127)) := ((Below.refl _ _).alloc (Nat.le_refl _) _).alloc (by simp) _
 have hz0 : ((w.alloc (.cells #[.slice none 0 0, .int .i64 0, .slice none 0 0, .slice none 0 0] 127)).alloc (.cells #[.slice none 0 0, .int .i64 0, .slice none 0 0, .slice none 0 0] 127)).heap.size = w.heap.size + 2 := by simp
 clear p1 e1
 go_enter Tryz.func34, Tryz.ntmps34
 go_wp2_with fail
 generalize ((w.alloc (.cells #[.slice none 0 0, .int .i64 0, .slice none 0 0, .slice none 0 0] 127)).alloc (.cells #[.slice none 0 0, .int .i64 0, .slice none 0 0, .slice none 0 0] 127)) = W at p1' p2 hB0 hz0 ⊢
 refine (wcoded_any w.heap.size w.heap.size 0 T _ _ _ _ p1' (by omega) (by omega) hT).mono ?_
 rintro e w1 ⟨rfl, b, gs, gd, hA, v1, h1, k1, f1⟩
 have hlb := hA.len
 have hz1 := k1.size
 obtain ⟨pad, hpad, hp8⟩ : ∃ pad, (b.length + 13 + pad) % 8 = 0 ∧ pad < 8 := ⟨(8 - (b.length + 13) % 8) % 8, by omega, by omega⟩
 have hbl : ([0] ++ numB 1 2 ++ (b ++ symB 256)).length = b.length + 10 := by
  simp only [List.length_append, numB_length, List.length_singleton, sym256_length]; omega
 have hv1 : ∀ g, v1.ownBlock = some g → g < w1.heap.size := fun g e => by
  obtain ⟨_, _, hown⟩ := h1.pn.own
  exact (hown.lt g e).2
 clear p1'
 go_wp2_with fail
 refine (wstored_any w.heap.size w.heap.size 0 pad _ .empty _ _ _ _ h1.pn (by omega) (by rw [hbl]; omega) (by omega) (by show 0 ≤ 5000; omega) (by rw [hbl]; omega) hp8).mono ?_
 rintro e w1b ⟨rfl, b1, v1b, hpb1, h1b, k1b⟩
 have hz1b := k1b.size
 have hpb1' : PB b1 ([0] ++ numB 1 2 ++ (b ++ symB 256) ++ bareB 0 pad 0) := hpb1
 have h1o : Wo w.heap.size w1b w.heap.size b1 (.slice (some ⟨gs, 0, none⟩) 288 288) (.slice (some ⟨gd, 0, none⟩) 32 32) v1b := by
  have e : b1 ++ (ByteArray.empty).data.toList = b1 := by show b1 ++ [] = b1; rw [List.append_nil]
  rw [e] at h1b; exact h1b
 have p2' := (p2.frame (w' := w1) (k1.block (w.heap.size + 1) (by omega) (by omega) (by simp [Value.ownBlock])) (fun g e => by simp [Value.ownBlock] at e)).frame (w' := w1b) (k1b.block (w.heap.size + 1) (by omega) (by omega) (fun e => by
  rcases f1 _ e with e' | e'
  · simp [Value.ownBlock] at e'
  · omega)) (fun g e => by simp [Value.ownBlock] at e)
 have hvb : ∀ g, v1b.ownBlock = some g → g < w1b.heap.size := fun g e => (h1o.own.lt g e).2
 have hk01 : Kp W w1b w.heap.size (.slice none 0 0) := k1.andThen f1 k1b
 clear p2 hpb1 h1b
 go_wp2_with fail
 refine (wstored_any w.heap.size (w.heap.size + 1) 0 5 [] T _ _ _ _ p2' (by omega) (by simp) (by omega) hT (by simp) (by omega)).mono ?_
 rintro e w2 ⟨rfl, bs, v2, hpb, h2, k2⟩
 rw [List.nil_append] at hpb
 have h2r := p2'.row
 have h1l : ∀ g, v1b.ownBlock = some g → g ≠ w.heap.size + 1 := fun g e e2 => by
  subst e2
  exact own_tag h1o.own h2r e
 have h1' := h1o.frame (w' := w2) (k2.block w.heap.size (by omega) (by omega) (by simp [Value.ownBlock])) (fun g e => k2.block g (hvb g e) (h1l g e) (by simp [Value.ownBlock]))
 have hB2 : Below w.heap.size w w2 := ⟨k2.os.trans (hk01.os.trans hB0.os), k2.tape.trans (hk01.tape.trans hB0.tape), k2.output.trans (hk01.output.trans hB0.output), by have := k2.size; omega, fun c hc => by
  rw [k2.block c (by omega) (by omega) (by simp [Value.ownBlock]), hk01.block c (by omega) (by omega) (by simp [Value.ownBlock]), hB0.block c hc]⟩
 have hl1 := hpb1'.len
 have hl2 := hpb.len
 rw [bareB_length] at hl2
 rw [List.length_append, hbl, bareB_length] at hl1
 have HS := short_piece hA hpad hp8 hpb1' hpb
 obtain ⟨c0, c1, c2, c3⟩ := h1'.cel
 obtain ⟨d0, d1, d2, d3⟩ := h2.cel
 have HO : Hid (_) := shorter_any w.heap.size w.heap.size v1b v2 (.int .i64 0) (.int .i64 0) (.slice (some ⟨gs, 0, none⟩) 288 288) (.slice none 0 0) (.slice (some ⟨gd, 0, none⟩) 32 32) (.slice none 0 0) b1 (bs ++ T.data.toList) w2 h1'.own h2.own
 generalize shortL b1 (bs ++ T.data.toList) = Sx at HS HO
 clear h1 h1' h2 k1 k2 hpb hpb1' hA p2' hB0 h1l hv1 hvb hl1 hl2 f1 h1o h2r k1b hk01 hbl
 go_wp2_with fail
 refine Calls.mono HO.out ?_
 rintro e w3 ⟨rfl, hb3⟩
 have hB3 := hB2.trans (hb3.mono hB2.size)
 clear HO c0 c1 c2 c3 d0 d1 d2 d3
 go_wp2
 go_ret
 exact ⟨Sx, HS, rfl, hB3⟩
end Go.Proofs.YtecddphahiadlaaGreatDoor
