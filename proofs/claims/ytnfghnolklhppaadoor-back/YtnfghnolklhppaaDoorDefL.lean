import Derived.Test.YtnfghnolklhppaaDoorPenN
import Derived.Test.YtnfghnolklhppaaDoorTexts
import Derived.Deep.RegionWith
import Derived.Test.YtnfghnolklhppaaDoorDecF
import Derived.Test.YtnfghnolklhppaaDoorPastR
import Derived.Lib.AppendStr
import Derived.Lib.Strings
import Derived.Lib.BufferRead
/- The program's writer: length, distance. -/
namespace Go.Proofs.YtnfghnolklhppaaDoor
open Go.RowKit

/-- The writer with its codes. -/
structure Wr (B : Nat) (w : World) (gx : Nat) (b : List Nat) (gs gd : Nat) (vb : Value) : Prop where
  pn : Pn B w gx b (.slice (some ⟨gs, 0, none⟩) 288 288) (.slice (some ⟨gd, 0, none⟩) 32 32) vb
  syms : w.rowIs gs 9 288 (fun i => .string (codeT fixZ 288 i))
  diss : w.rowIs gd 9 32 (fun i => .string (codeT fivZ 32 i))
  ns : gs ≠ gx ∧ vb.ownBlock ≠ some gs
  nd : gd ≠ gx ∧ vb.ownBlock ≠ some gd

def RunsW (B : Nat) (w w' : World) (gx : Nat) (b : List Nat) (gs gd : Nat) (vb : Value) : Prop :=
  ∃ vb', Wr B w' gx b gs gd vb' ∧ Kp w w' gx vb ∧ ∀ g, vb'.ownBlock = some g → vb.ownBlock = some g ∨ w.heap.size ≤ g

theorem Wr.runs {B : Nat} {w w' : World} {gx : Nat} {b b' : List Nat} {gs gd : Nat} {vb : Value} (h : Wr B w gx b gs gd vb) (hr : RunsP B w w' gx b' (.slice (some ⟨gs, 0, none⟩) 288 288) (.slice (some ⟨gd, 0, none⟩) 32 32) vb) : RunsW B w w' gx b' gs gd vb := by
  obtain ⟨vb', hp, hk, hf⟩ := hr
  have l1 := h.syms.lt
  have l2 := h.diss.lt
  refine ⟨vb', ⟨hp, h.syms.of_block (hk.block gs l1 h.ns.1 h.ns.2), h.diss.of_block (hk.block gd l2 h.nd.1 h.nd.2), ⟨h.ns.1, fun e => ?_⟩, ⟨h.nd.1, fun e => ?_⟩⟩, hk, hf⟩
  · rcases hf gs e with e | e
    · exact h.ns.2 e
    · omega
  · rcases hf gd e with e | e
    · exact h.nd.2 e
    · omega
theorem RunsW.refl {B : Nat} {w : World} {gx : Nat} {b : List Nat} {gs gd : Nat} {vb : Value} (h : Wr B w gx b gs gd vb) : RunsW B w w gx b gs gd vb := ⟨vb, h, Kp.refl _ _ _, fun _ hg => Or.inl hg⟩
theorem Kp.andThen {w w1 w2 : World} {gx : Nat} {vb vb1 : Value} (k1 : Kp w w1 gx vb) (f1 : ∀ g, vb1.ownBlock = some g → vb.ownBlock = some g ∨ w.heap.size ≤ g) (k2 : Kp w1 w2 gx vb1) : Kp w w2 gx vb := by
  refine ⟨k2.os.trans k1.os, k2.tape.trans k1.tape, k2.output.trans k1.output, Nat.le_trans k1.size k2.size, fun b hb hx hv => ?_⟩
  rw [k2.block b (Nat.lt_of_lt_of_le hb k1.size) hx (fun e => ?_), k1.block b hb hx hv]
  rcases f1 b e with e' | e'
  · exact hv e'
  · omega
theorem RunsW.trans {B : Nat} {w w1 w2 : World} {gx : Nat} {b2 : List Nat} {gs gd : Nat} {vb vb1 : Value} (k1 : Kp w w1 gx vb) (f1 : ∀ g, vb1.ownBlock = some g → vb.ownBlock = some g ∨ w.heap.size ≤ g) (h2 : RunsW B w1 w2 gx b2 gs gd vb1) : RunsW B w w2 gx b2 gs gd vb := by
  obtain ⟨vb2, s2, k2, f2⟩ := h2
  refine ⟨vb2, s2, k1.andThen f1 k2, fun g hg => ?_⟩
  rcases f2 g hg with e | e
  · exact f1 g e
  · exact Or.inr (Nat.le_trans k1.size e)
theorem Wr.drewN {B : Nat} {w : World} {gx : Nat} {b : List Nat} {gs gd : Nat} {vb : Value} (h : Wr B w gx b gs gd vb) (q : Nat) : Wr B (w.drewN q) gx b gs gd vb := ⟨h.pn.drewN q, h.syms.of_block rfl, h.diss.of_block rfl, h.ns, h.nd⟩
theorem Wr.drew {B : Nat} {w : World} {gx : Nat} {b : List Nat} {gs gd : Nat} {vb : Value} (h : Wr B w gx b gs gd vb) : Wr B w.drew gx b gs gd vb := ⟨⟨h.pn.le, h.pn.row.drew, h.pn.own, h.pn.ne⟩, h.syms.of_block rfl, h.diss.of_block rfl, h.ns, h.nd⟩

theorem codeT_fix {i : Nat} (h : i < 288) : codeT fixZ 288 i = bitsB (codeN fixZ 288 i) (fixZ i).toNat := codeT_eq fix_full h
theorem codeT_fiv {i : Nat} (h : i < 32) : codeT fivZ 32 i = bitsB (codeN fivZ 32 i) (fivZ i).toNat := codeT_eq fiv_full h
theorem fixZ_nat (i : Nat) : (fixZ i).toNat ≤ 15 := by have := fixZ_one i; omega

/-- A symbol is written. -/
theorem wsym_any (B gx gs gd i : Nat) (b : List Nat) (vb : Value) (w w0 : World) (hw : w0 = w.drew) (h : Wr B w gx b gs gd vb) (hB : B ≤ w.heap.size) (hl : b.length + 15 ≤ 1000000) (hi : i < 288) :
    Calls Tryd.prog 41 #[.pointer (some ⟨gx, 0, none⟩), .string (codeT fixZ 288 i)] w0 fun e w' => e = .returned (.tuple #[]) ∧ RunsW B w w' gx (b ++ symB i) gs gd vb := by
  subst hw
  rw [codeT_fix hi]
  refine (pcode_any B gx _ _ b _ _ vb w.drew h.drew.pn hB (by have := fixZ_nat i; omega) (fixZ_nat i)).mono ?_
  rintro e w' ⟨rfl, hr⟩
  refine ⟨rfl, RunsW.trans (Kp.drewN (Kp.refl w gx vb) 1) (fun _ hg => Or.inl hg) (h.drew.runs hr)⟩
theorem wdis_any (B gx gs gd i : Nat) (b : List Nat) (vb : Value) (w w0 : World) (hw : w0 = w.drew) (h : Wr B w gx b gs gd vb) (hB : B ≤ w.heap.size) (hl : b.length + 15 ≤ 1000000) (hi : i < 32) :
    Calls Tryd.prog 41 #[.pointer (some ⟨gx, 0, none⟩), .string (codeT fivZ 32 i)] w0 fun e w' => e = .returned (.tuple #[]) ∧ RunsW B w w' gx (b ++ disB i) gs gd vb := by
  subst hw
  rw [codeT_fiv hi]
  refine (pcode_any B gx _ _ b _ _ vb w.drew h.drew.pn hB (by show b.length + 5 ≤ _; omega) (by show 5 ≤ 15; omega)).mono ?_
  rintro e w' ⟨rfl, hr⟩
  refine ⟨rfl, RunsW.trans (Kp.drewN (Kp.refl w gx vb) 1) (fun _ hg => Or.inl hg) (h.drew.runs hr)⟩

theorem placedL_int (v : Nat) (V : Int) (hV : V = (v : Int)) (hv : v < 255) (w : World) :
    Calls Tryd.prog 82 #[.int .i64 V, .int .i64 2] w fun e w' => ∃ p, PlL v p ∧ e = .returned (.tuple #[.int .i64 (p : Nat), .int .i64 (v - tellL p : Nat), .int .i64 (addL p : Nat)]) ∧ w' = w := by
  subst hV; exact placedL_any v hv w
theorem placedD_int (v : Nat) (V : Int) (hV : V = (v : Int)) (hv : v < 5000) (w : World) :
    Calls Tryd.prog 82 #[.int .i64 V, .int .i64 1] w fun e w' => ∃ p, PlD v p ∧ e = .returned (.tuple #[.int .i64 (p : Nat), .int .i64 (v - tellD p : Nat), .int .i64 (addD p : Nat)]) ∧ w' = w := by
  subst hV; exact placedD_any v hv w

set_option maxRecDepth 4000 in
set_option maxHeartbeats 1000000 in
theorem wlen_any (B gx gs gd n : Nat) (b : List Nat) (vb : Value) (w : World) (h : Wr B w gx b gs gd vb) (hB : B ≤ w.heap.size) (hl : b.length + 30 ≤ 1000000) (h3 : 3 ≤ n) (h258 : n ≤ 258) :
    Calls Tryd.prog 66 #[.pointer (some ⟨gx, 0, none⟩), .int .i64 (n : Int)] w fun e w' => e = .returned (.tuple #[]) ∧ ∃ p, (n ≠ 258 → PlL (n - 3) p) ∧ RunsW B w w' gx (b ++ lenB n p) gs gd vb := by
  have c2 := h.pn.c2
  by_cases hn : n = 258
  · have c285 := h.syms.cell (i := 285) (by omega)
    have HB : Hid (∀ p, lenB n p = symB 285) := fun p => by unfold lenB; rw [if_pos hn]
    subst hn
    go_enter Tryd.func66, Tryd.ntmps66
    go_wp2
    go_region_with (go_at_call 41; refine (wsym_any B gx gs gd 285 b vb w _ rfl h hB (by omega) (by omega)).mono ?_; rintro e w2 ⟨rfl, hr⟩)
    go_wp2
    refine bodyPost_ret (results_none rfl _ _ _) rfl ?_
    exact ⟨rfl, 0, fun e => absurd rfl e, by rw [HB.out]; exact hr⟩
  · have hnI : ¬ (n : Int) = 258 := by omega
    go_enter Tryd.func66, Tryd.ntmps66
    go_wp2_with fail
    refine (placedL_int (n - 3) ((n : Int) - 3) (by omega) (by omega) _).mono ?_
    rintro e w1 ⟨p, hpl, rfl, rfl⟩
    obtain ⟨hp1, hp2, hp3⟩ := hpl
    obtain ⟨hu1, hu2, hu3⟩ := tellL_up p hp1
    obtain ⟨y, hy⟩ : ∃ y, y = 257 + p := ⟨_, rfl⟩
    have cp := h.syms.cell (i := y) (by omega)
    have hIx : (257 : Int) + (p : Int) = (y : Int) := by omega
    have hIl : (y : Int) < 288 := by omega
    have hpw : 2 ^ addL p ≤ 2 ^ 5 := Nat.pow_le_pow_right (by omega) hu3
    have HB : Hid (lenB n p = symB y ++ numB (n - 3 - tellL p) (addL p)) := by show _ = _; unfold lenB; rw [if_neg hn, hy]
    have hy2 : y < 288 := by omega
    have hwy : IntKind.i64.wrap (y : Int) = (y : Int) := by rw [IntKind.wrap_i64]; omega
    clear hy
    have HP : Hid (PlL (n - 3) p) := ⟨hp1, hp2, hp3⟩
    have hxv : n - 3 - tellL p < 65536 := by omega
    have ha16 : addL p ≤ 5 := hu3
    clear hp2 hp3 hu1 hu2 hu3 hpw
    generalize n - 3 - tellL p = X at HB hxv ⊢
    generalize addL p = A at HB ha16 ⊢
    go_wp2
    go_region_with (go_at_call 41; refine (wsym_any B gx gs gd y b vb w1 _ rfl h hB (by omega) (by omega)).mono ?_; rintro e w2 ⟨rfl, vb2, hW2, hk2, hf2⟩)
    go_wp2_with fail
    refine (pnum_any B gx X A (b ++ symB y) _ _ vb2 _ hW2.pn (Nat.le_trans hB hk2.size) (by have := (symB_le y).1; rw [List.length_append]; omega) hxv (by omega)).mono ?_
    rintro e w3 ⟨rfl, hr⟩
    have R := RunsW.trans hk2 hf2 (hW2.runs hr)
    rw [List.append_assoc, ← HB.out] at R
    clear hr hW2 hk2 hf2
    go_wp2
    go_end0
    exact ⟨rfl, p, fun _ => HP.out, R⟩

set_option maxRecDepth 4000 in
set_option maxHeartbeats 1000000 in
theorem wdist_any (B gx gs gd d : Nat) (b : List Nat) (vb : Value) (w : World) (h : Wr B w gx b gs gd vb) (hB : B ≤ w.heap.size) (hl : b.length + 30 ≤ 1000000) (h1 : 1 ≤ d) (h5 : d ≤ 5000) :
    Calls Tryd.prog 67 #[.pointer (some ⟨gx, 0, none⟩), .int .i64 (d : Int)] w fun e w' => e = .returned (.tuple #[]) ∧ ∃ q, PlD (d - 1) q ∧ RunsW B w w' gx (b ++ dstB d q) gs gd vb := by
  have c3 := h.pn.c3
  go_enter Tryd.func67, Tryd.ntmps67
  go_wp2_with fail
  refine (placedD_int (d - 1) ((d : Int) - 1) (by omega) (by omega) _).mono ?_
  rintro e w1 ⟨p, hpl, rfl, rfl⟩
  obtain ⟨hp1, hp2, hp3⟩ := hpl
  obtain ⟨hu1, hu2, hu3⟩ := tellD_up p (by omega)
  have cp := h.diss.cell (i := p) (by omega)
  have hIl : (p : Int) < 32 := by omega
  have hpw : 2 ^ addD p ≤ 2 ^ 13 := Nat.pow_le_pow_right (by omega) hu3
  have HB : Hid (dstB d p = disB p ++ numB (d - 1 - tellD p) (addD p)) := rfl
  have HP : Hid (PlD (d - 1) p) := ⟨hp1, hp2, hp3⟩
  have hxv : d - 1 - tellD p < 65536 := by omega
  have ha16 : addD p ≤ 13 := hu3
  clear hp2 hp3 hu1 hu2 hu3 hpw
  generalize d - 1 - tellD p = X at HB hxv ⊢
  generalize addD p = A at HB ha16 ⊢
  go_wp2
  go_region_with (go_at_call 41; refine (wdis_any B gx gs gd p b vb w1 _ rfl h hB (by omega) (by omega)).mono ?_; rintro e w2 ⟨rfl, vb2, hW2, hk2, hf2⟩)
  go_wp2_with fail
  refine (pnum_any B gx X A (b ++ disB p) _ _ vb2 _ hW2.pn (Nat.le_trans hB hk2.size) (by have := disB_length p; rw [List.length_append]; omega) hxv (by omega)).mono ?_
  rintro e w3 ⟨rfl, hr⟩
  have R := RunsW.trans hk2 hf2 (hW2.runs hr)
  rw [List.append_assoc, ← HB.out] at R
  clear hr hW2 hk2 hf2
  go_wp2
  go_end0
  exact ⟨rfl, p, HP.out, R⟩

end Go.Proofs.YtnfghnolklhppaaDoor

/- A text as it is written, symbol by symbol: plain reckoning. -/
namespace Go.Proofs.YtnfghnolklhppaaDoor
open Go.RowKit

def pre (T : ByteArray) (a : Nat) : List UInt8 := T.data.toList.take a
theorem pre_length {T : ByteArray} {a : Nat} (h : a ≤ T.size) : (pre T a).length = a := by
  unfold pre
  rw [List.length_take, Array.length_toList]
  have : T.data.size = T.size := rfl
  omega
theorem pre_snoc {T : ByteArray} {a : Nat} (h : a < T.size) : pre T (a + 1) = pre T a ++ [tb T a] := by
  unfold pre tb
  have hl : a < T.data.toList.length := by rw [Array.length_toList]; exact h
  rw [List.take_add_one, List.getD_eq_getElem?_getD, List.getElem?_eq_getElem hl]
  rfl
theorem pre_at {T : ByteArray} {a i : Nat} (h : i < a) : (pre T a).getD i 0 = tb T i := by
  unfold pre tb
  rw [List.getD_eq_getElem?_getD, List.getElem?_take, if_pos h, ← List.getD_eq_getElem?_getD]
theorem pre_whole (T : ByteArray) : pre T T.size = T.data.toList := by
  unfold pre
  exact List.take_of_length_le (by rw [Array.length_toList]; exact Nat.le_refl _)

theorem copy_pre {T : ByteArray} {d : Nat} (hd : 1 ≤ d) : ∀ (l a : Nat), d ≤ a → a + l ≤ T.size → Alk T (a - d) a l → copyF d l (pre T a) = pre T (a + l)
  | 0, a, _, _, _ => rfl
  | l + 1, a, hda, hl, hs => by
    simp only [copyF]
    have h0 := hs 0 (by omega)
    rw [Nat.add_zero, Nat.add_zero] at h0
    rw [pre_length (by omega), pre_at (by omega), h0, ← pre_snoc (by omega), copy_pre hd l (a + 1) (by omega) (by omega) (fun i hi => by
      have := hs (i + 1) (by omega)
      rw [show a + 1 - d + i = a - d + (i + 1) from by omega, show a + 1 + i = a + (i + 1) from by omega]
      exact this), show a + 1 + l = a + (l + 1) from by omega]

def CostOk (T : ByteArray) (a L : Nat) : Prop :=
  Uni T → (a = 0 ∧ L = 0) ∨ (1 ≤ a ∧ (a - 1) % 258 = 0 ∧ 5 * L ≤ 2 * (a - 1) + 45) ∨ (T.size ≤ a + 2 ∧ 5 * L + 45 * (T.size - a) ≤ 2 * a + 300)

/-- So much is written. -/
structure AllR (T : ByteArray) (a : Nat) (b : List Nat) : Prop where
  le : a ≤ T.size
  dec : Dec (pre T a) b
  len : b.length ≤ 32 * a
  cost : CostOk T a b.length

theorem AllR.start (T : ByteArray) : AllR T 0 [] := ⟨by omega, Dec.nil, by simp, fun _ => Or.inl ⟨rfl, rfl⟩⟩

theorem AllR.lit {T : ByteArray} {a d : Nat} {b : List Nat} (h : AllR T a b) (hT : T.size ≤ 5000) (ha : a < T.size) (hl : LongOk T a 0 d) : AllR T (a + 1) (b ++ symB (tb T a).toNat) := by
  have hs := symB_le (tb T a).toNat
  have hn := h.len
  refine ⟨ha, ?_, by rw [List.length_append]; omega, fun hu => ?_⟩
  · rw [pre_snoc ha]
    exact h.dec.lit _ (by rw [pre_length h.le]; omega)
  · have hc := h.cost hu
    rw [List.length_append]
    have h2 : a = 0 ∨ T.size < a + 3 := by
      rcases hl with ⟨_, _, q⟩ | q
      · exact q hu
      · have := q.1; omega
    rcases hc with ⟨c1, c2⟩ | ⟨c1, c2, c3⟩ | ⟨c1, c2⟩
    · subst c1
      exact Or.inr (Or.inl ⟨by omega, by simp, by omega⟩)
    · exact Or.inr (Or.inr ⟨by omega, by omega⟩)
    · exact Or.inr (Or.inr ⟨by omega, by omega⟩)

theorem lenB_le (n p : Nat) (hp : n ≠ 258 → PlL (n - 3) p) : (lenB n p).length ≤ 13 ∧ (n = 258 → (lenB n p).length ≤ 8) := by
  unfold lenB
  by_cases e : n = 258
  · rw [if_pos e]
    have := symB_great 285 (by omega)
    exact ⟨by omega, fun _ => this⟩
  · rw [if_neg e, List.length_append, numB_length]
    have h1 := symB_great (257 + p) (by omega)
    have h2 := (tellL_up p (hp e).1).2.2
    exact ⟨by omega, fun h => absurd h e⟩
theorem dstB_le (d q : Nat) (hd : 1 ≤ d) (hq : PlD (d - 1) q) : (dstB d q).length ≤ 18 ∧ (d = 1 → (dstB d q).length = 5) := by
  unfold dstB
  rw [List.length_append, numB_length, disB_length]
  have h2 := (tellD_up q (by have := hq.1; omega)).2.2
  refine ⟨by omega, fun e => ?_⟩
  subst e
  have h3 := hq.2.1
  have h4 : q = 0 := by
    rcases (by omega : q = 0 ∨ 1 ≤ q) with e | e
    · exact e
    · exfalso
      have : ∀ q, q < 25 → 1 ≤ q → 1 ≤ tellD q := by decide
      have := this q hq.1 e
      omega
  subst h4
  rfl

theorem AllR.pair {T : ByteArray} {a l d p q : Nat} {b : List Nat} (h : AllR T a b) (hT : T.size ≤ 5000) (hg : Good T a l d) (hp : l ≠ 258 → PlL (l - 3) p) (hq : PlD (d - 1) q) : AllR T (a + l) (b ++ (lenB l p ++ dstB d q)) := by
  obtain ⟨g1, g2, g3, g4, g5, g6, g7⟩ := hg
  have hl := lenB_le l p hp
  have hd := dstB_le d q g4 hq
  have hn := h.len
  refine ⟨g3, ?_, by simp only [List.length_append]; omega, fun hu => ?_⟩
  · rw [← copy_pre g4 l a g5 g3 g6]
    exact h.dec.pair g1 g2 hp g4 (by rw [pre_length h.le]; exact g5) hq (by rw [pre_length h.le]; omega)
  · have hc := h.cost hu
    obtain ⟨u1, u2⟩ := g7 hu
    have hd5 := hd.2 u2
    simp only [List.length_append]
    rcases hc with ⟨c1, c2⟩ | ⟨c1, c2, c3⟩ | ⟨c1, c2⟩
    · omega
    · by_cases e : l = 258
      · have := hl.2 e
        exact Or.inr (Or.inl ⟨by omega, by omega, by omega⟩)
      · exact Or.inr (Or.inr ⟨by omega, by omega⟩)
    · omega

theorem AllR.short {T : ByteArray} {b : List Nat} (h : AllR T T.size b) (hu : Uni T) : 5 * b.length ≤ 2 * T.size + 300 := by
  rcases h.cost hu with ⟨c1, c2⟩ | ⟨c1, c2, c3⟩ | ⟨c1, c2⟩ <;> omega

end Go.Proofs.YtnfghnolklhppaaDoor

/- The program's writer: all. -/
namespace Go.Proofs.YtnfghnolklhppaaDoor
open Go.RowKit

theorem Wr.later {B : Nat} {w w1 : World} {gx : Nat} {b : List Nat} {gs gd : Nat} {vb : Value} (h : Wr B w gx b gs gd vb) (hb : Below w.heap.size w w1) : Wr B w1 gx b gs gd vb := by
  obtain ⟨bs, hpb, q1, q2⟩ := h.pn.own
  refine ⟨⟨h.pn.le, h.pn.row.of_block (hb.block gx h.pn.row.lt), ⟨bs, hpb, q1, ?_⟩, h.pn.ne⟩, h.syms.of_block (hb.block gs h.syms.lt), h.diss.of_block (hb.block gd h.diss.lt), h.ns, h.nd⟩
  rcases q2 with q2 | ⟨g, cap, cur, hv, hg, hh, r⟩
  · exact Or.inl q2
  · exact Or.inr ⟨g, cap, cur, hv, hg, (hb.block g (Array.getElem?_eq_some_iff.1 hh).1).trans hh, r⟩
theorem kp_of_below {w w1 : World} (hb : Below w.heap.size w w1) (gx : Nat) (vb : Value) : Kp w w1 gx vb := ⟨hb.os, hb.tape, hb.output, hb.size, fun b h _ _ => hb.block b h⟩

/-- In the loop of all. -/
structure WAR (B : Nat) (w1 wr : World) (gx : Nat) (b0 : List Nat) (gs gd : Nat) (vb : Value) (T : ByteArray) (a : Nat) : Prop where
  run : ∃ b, AllR T a b ∧ RunsW B w1 wr gx (b0 ++ b) gs gd vb

theorem WAR.block {B : Nat} {w1 wr : World} {gx : Nat} {b0 : List Nat} {gs gd : Nat} {vb : Value} {T : ByteArray} {a : Nat} (h : WAR B w1 wr gx b0 gs gd vb T a) {g : Nat} (hg : g < w1.heap.size) (hx : g ≠ gx) (hv : vb.ownBlock ≠ some g) : wr.heap[g]? = w1.heap[g]? := by
  obtain ⟨b, _, vb', _, hk, _⟩ := h.run
  exact hk.block g hg hx hv

set_option maxRecDepth 4000 in
set_option maxHeartbeats 2000000 in
theorem wall_any (B gx gs gd : Nat) (b0 : List Nat) (vb : Value) (T : ByteArray) (w : World) (h : Wr B w gx b0 gs gd vb) (hB : B ≤ w.heap.size) (hl : b0.length ≤ 1000) (hT : T.size ≤ 5000) :
    Calls Tryd.prog 40 #[.pointer (some ⟨gx, 0, none⟩), .string T] w fun e w' => e = .returned (.tuple #[]) ∧ ∃ b, AllR T T.size b ∧ RunsW B w w' gx (b0 ++ b) gs gd vb := by
  go_enter Tryd.func40, Tryd.ntmps40
  go_wp2_with fail
  refine (remember_any T _ hT).mono ?_
  rintro e w1 ⟨ge, z, rfl, hge, hI, hE, hb1⟩
  have hb2 : Below w.heap.size w (w1.alloc (.cells #[.string T, .slice (some ⟨ge, 0, none⟩) T.size T.size] 94)) := hb1.alloc hb1.size _
  have h2 := h.later hb2
  have hk2 := kp_of_below hb2 gx vb
  have hIb : IntsAt (w1.alloc (.cells #[.string T, .slice (some ⟨ge, 0, none⟩) T.size T.size] 94)) ge 0 T.size z := hI.later ((Below.refl _ _).alloc (Nat.le_refl _) _)
  have hbox : (w1.alloc (.cells #[.string T, .slice (some ⟨ge, 0, none⟩) T.size T.size] 94)).heap[w1.heap.size]? = some (.cells #[.string T, .slice (some ⟨ge, 0, none⟩) T.size T.size] 94 (0, 0)) := heap_alloc_last w1 _
  have hs1 := hb1.size
  have hgx := h.pn.row.lt
  have hvn : ∀ g, vb.ownBlock = some g → g < w.heap.size := fun g e => by
    obtain ⟨bs, _, hown⟩ := h.pn.own
    exact (hown.lt g e).2
  have R0 : WAR B (w1.alloc (.cells #[.string T, .slice (some ⟨ge, 0, none⟩) T.size T.size] 94)) (w1.alloc (.cells #[.string T, .slice (some ⟨ge, 0, none⟩) T.size T.size] 94)) gx b0 gs gd vb T 0 := ⟨[], AllR.start T, by rw [List.append_nil]; exact RunsW.refl h2⟩
  have hw2 : w1.heap.size < (w1.alloc (.cells #[.string T, .slice (some ⟨ge, 0, none⟩) T.size T.size] 94)).heap.size := by simp
  go_wp2
  generalize w1.alloc (.cells #[.string T, .slice (some ⟨ge, 0, none⟩) T.size T.size] 94) = W at hb2 h2 hk2 hIb hbox R0 hw2 ⊢
  obtain ⟨gb, hgb⟩ : ∃ gb, gb = w1.heap.size := ⟨_, rfl⟩
  rw [← hgb] at hbox hw2 ⊢
  have hWw := hb2.size
  have nb : gb ≠ gx ∧ vb.ownBlock ≠ some gb := ⟨by omega, fun e => by have := hvn _ e; omega⟩
  have ne : ge ≠ gx ∧ vb.ownBlock ≠ some ge := ⟨by omega, fun e => by have := hvn _ e; omega⟩
  clear hb1 hs1 hI h hgb hvn hge hb2
  go_loopw [5] (fun x wr => ∃ a : Nat, x = .int .i64 (a : Nat) ∧ WAR B W wr gx b0 gs gd vb T a) (fun x _ => T.size - (intOf x).toNat)
  case atStart => exact ⟨0, rfl, R0⟩
  case round =>
    obtain ⟨a, rfl, hrel⟩ := hrel
    clear R0
    obtain ⟨b, hA, hR⟩ := hrel.run
    have haT := hA.le
    by_cases hlt : a < T.size
    · have hrow : wr.heap[gb]? = _ := (hrel.block hw2 nb.1 nb.2).trans hbox
      have hIr : IntsAt wr ge 0 T.size z := ⟨fun i hi => by
        have e := hIb.cell i hi
        simp only [World.cell?] at e ⊢
        rw [hrel.block hIb.lt ne.1 ne.2]; exact e, by
        obtain ⟨_, _, _, _, hk, _⟩ := hrel.run
        exact Nat.lt_of_lt_of_le hIb.lt hk.size⟩
      have hsz : (Tryd.prog.info? 94).map (·.size) = some (#[Value.string T, .slice (some ⟨ge, 0, none⟩) T.size T.size]).size := Tryd.size94
      have hlen := hA.len
      obtain ⟨vb1, hW1, hk1, hf1⟩ := hR
      have hB1 : B ≤ wr.heap.size := Nat.le_trans (Nat.le_trans hB hWw) hk1.size
      clear hrel
      go_wp2_with (first | (refine wpList_load_row_g rfl 94 (.tmp 4) rfl gb rfl 94 #[.string T, .slice (some ⟨ge, 0, none⟩) T.size T.size] (0, 0) _ hrow Tryd.underlying94 rfl hsz ?_) | fail)
      refine (longest_any a ge T.size z T _ hT hlt hE hIr).mono ?_
      rintro e w3 ⟨l, d, rfl, hL, hb3⟩
      have hW3 := hW1.later hb3
      have hk3 := hk1.andThen hf1 (kp_of_below hb3 gx vb1)
      have hB3 : B ≤ w3.heap.size := Nat.le_trans hB1 hb3.size
      have hf3 : ∀ g, vb1.ownBlock = some g → vb.ownBlock = some g ∨ W.heap.size ≤ g := hf1
      clear hk1 hf1 hW1 hb3 hrow hIr hsz
      by_cases hl0 : l = 0
      · subst hl0
        have hA2 := hA.lit hT hlt hL
        have c2 := hW3.pn.c2
        have hir : ∀ wq, _ := fun wq => index_run T a (a : Int) rfl hlt wq
        have hc256 := (tb T a).toNat_lt
        have HT : Hid ((T.data.toList.getD a 0).toNat = (tb T a).toNat) := rfl
        rw [HT.out] at hir
        generalize (tb T a).toNat = c at hir hc256 hA2
        have cs := hW3.syms.cell (i := c) (by omega)
        have hcI : (c : Int) < 288 := by omega
        clear hL
        go_wp2
        go_region_with (go_at_call 41; refine (wsym_any B gx gs gd c (b0 ++ b) vb1 w3 _ rfl hW3 hB3 (by rw [List.length_append]; omega) (by omega)).mono ?_; rintro e w4 ⟨rfl, hr⟩)
        all_goals
          have R := RunsW.trans hk3 hf3 hr
          rw [List.append_assoc] at R
          clear hr hW3 hk3 hf3 c2 cs
          go_wp2
          go_roundw
          case rel => exact ⟨a + 1, by go_num, ⟨_, hA2, R⟩⟩
          case measure => simp [intOf]; omega
      · have hlI : ¬ (l : Int) = 0 := by omega
        have hg : Good T a l d := by
          rcases hL with ⟨e, _⟩ | e
          · exact absurd e hl0
          · exact e
        have hg1 := hg.1
        have hg2 := hg.2.1
        have hg3 := hg.2.2.1
        have hg4 := hg.2.2.2.1
        have hg5 := hg.2.2.2.2.1
        have HGd : Hid (Good T a l d) := hg
        clear hL hg
        go_wp2_with fail
        refine (wlen_any B gx gs gd l (b0 ++ b) vb1 _ hW3 hB3 (by rw [List.length_append]; omega) hg1 hg2).mono ?_
        rintro e w4 ⟨rfl, p, hp, vb4, hW4, hk4, hf4⟩
        have HPl : Hid (l ≠ 258 → PlL (l - 3) p) := hp
        have hlb := lenB_le l p hp
        clear hp
        go_wp2_with fail
        refine (wdist_any B gx gs gd d ((b0 ++ b) ++ lenB l p) vb4 _ hW4 (Nat.le_trans hB3 hk4.size) (by simp only [List.length_append]; omega) hg4 (by omega)).mono ?_
        rintro e w5 ⟨rfl, q, hq, hr⟩
        have R := RunsW.trans hk3 hf3 (RunsW.trans hk4 hf4 hr)
        have hA2 := hA.pair hT HGd.out HPl.out hq
        rw [List.append_assoc, List.append_assoc] at R
        clear hr hW3 hk3 hf3 hW4 hk4 hf4 hq hlb
        go_wp2
        go_roundw
        case rel => exact ⟨a + l, by go_num, ⟨_, hA2, R⟩⟩
        case measure => simp [intOf]; omega
    · obtain rfl : a = T.size := by omega
      have R := RunsW.trans hk2 (fun _ hg => Or.inl hg) hR
      clear hrel
      go_wp2
      go_end0
      exact ⟨rfl, b, hA, R⟩

end Go.Proofs.YtnfghnolklhppaaDoor

/- The program's stored and coded. -/
namespace Go.Proofs.YtnfghnolklhppaaDoor
open Go.RowKit

/-- A stream of one block of kind 0. -/
theorem stored_whole {t : List UInt8} (ht : t.length ≤ 5000) {bs : List UInt8} (hp : PB bs ([1] ++ numB 0 2 ++ List.replicate 5 0 ++ numB t.length 16 ++ numB (65535 - t.length) 16)) :
    bs.length = 5 ∧ runF ⟨(bs ++ t).toArray⟩ = ⟨8 * (5 + t.length), t, 0, true⟩ := by
  have hl := hp.len
  simp only [List.length_append, List.length_replicate, numB_length, List.length_singleton] at hl
  have hl5 : bs.length = 5 := by omega
  refine ⟨hl5, ?_⟩
  have hb : HasBits ⟨(bs ++ t).toArray⟩ 0 ([1] ++ numB 0 2 ++ List.replicate 5 0 ++ numB t.length 16 ++ numB (65535 - t.length) 16) := hp.has (r := t) (by simp)
  have hb1 := bit_read (b := []) hb.left.left.left.left [] false
  have hb2 := num_read (s := ⟨(bs ++ t).toArray⟩) [] false 2 0 1 (by decide) hb.left.left.left.right
  have hb3 : HasBits ⟨(bs ++ t).toArray⟩ 8 (numB t.length 16) := by
    have := hb.left.right
    simpa [numB_length] using this
  have hb4 : HasBits ⟨(bs ++ t).toArray⟩ 24 (numB (65535 - t.length) 16) := by
    have := hb.right
    simpa [numB_length] using this
  have hn1 := num_read (s := ⟨(bs ++ t).toArray⟩) [] false 16 t.length 8 (by omega) hb3
  have hn2 := num_read (s := ⟨(bs ++ t).toArray⟩) [] false 16 (65535 - t.length) 24 (by omega) hb4
  have hat : HasAt ⟨(bs ++ t).toArray⟩ 5 t := by
    have := HasAt.right (x := bs) (y := t) (HasAt.self (bs ++ t))
    rw [hl5] at this
    exact this
  have hby := bytes_run ⟨(bs ++ t).toArray⟩ false t 5 [] hat (by simp; omega)
  have hst : runStep ⟨(bs ++ t).toArray⟩ start = (false, ⟨8 * (5 + t.length), t, 0, true⟩) := by
    unfold runStep start
    rw [hb1]
    simp only [Nat.zero_add]
    rw [hb2]
    simp only [blockF, plainF]
    have hh : plainHead ⟨(bs ++ t).toArray⟩ ⟨1 + 2, [], 0, false⟩ = (t.length, ⟨40, [], 0, false⟩) := by
      unfold plainHead
      have ea : alignF ⟨1 + 2, [], 0, false⟩ = ⟨8, [], 0, false⟩ := rfl
      rw [ea, hn1]
      simp only [hn2]
      rw [if_neg (by simp; omega)]
    simp only [if_true, hh, show (40 : Nat) = 8 * 5 from rfl, hby, List.nil_append]
    simp
  unfold runF
  simp only [runGo]
  rw [if_pos ⟨rfl, rfl⟩, hst]
  simp only [Bool.false_eq_true, if_false]
  cases 8 * (⟨(bs ++ t).toArray⟩ : ByteArray).size with
  | zero => rfl
  | succ m => simp [runGo]

theorem conv_own {B : Nat} {w : World} {v : Value} {bs : List UInt8} (ho : w.ownsRow B 5 1 v bs.length (byteVals bs)) : (convert 32 9 v).run Tryd.prog w = .ok (.string ⟨bs.toArray⟩) w := by
  obtain ⟨h1, h2⟩ := ho
  rcases h2 with ⟨h2, h3⟩ | ⟨g, cap, cur, hv, _⟩
  · have e : bs = [] := List.eq_nil_of_length_eq_zero h3
    rw [h2, e]
    exact Go.Lib.run_convert_nil_bytes (P := Tryd.prog) _ 32 9 5 0 Tryd.underlying32 Tryd.underlying5 Tryd.underlying9
  · have ho : w.ownsRow B 5 1 v bs.length (byteVals bs) := ⟨h1, Or.inr ⟨g, cap, cur, hv, by assumption⟩⟩
    rw [hv]
    refine run_convert_bytes_back (P := Tryd.prog) w 32 9 5 ⟨g, 0, none⟩ cap bs Tryd.underlying32 Tryd.underlying5 Tryd.underlying9 (fun j hj => ?_)
    have e := ho.cells (g := g) (by rw [hv]; rfl) j _ (byteVals_at bs j hj)
    have e2 : bs.getD j 0 = bs[j] := by rw [List.getD_eq_getElem?_getD, List.getElem?_eq_getElem hj]; rfl
    rw [e2] at e
    exact e

/-- A new writer. -/
theorem pn_start (w : World) : Pn w.heap.size (w.alloc (.cells #[.slice none 0 0, .int .i64 0, .slice none 0 0, .slice none 0 0] 69)) w.heap.size [] (.slice none 0 0) (.slice none 0 0) (.slice none 0 0) := by
  refine ⟨Nat.le_refl _, ?_, ⟨[], PB.start, World.ownsRow_nil _ _ _ _⟩, fun e => by simp [Value.ownBlock] at e⟩
  exact World.rowIs_alloc w #[.slice none 0 0, .int .i64 0, .slice none 0 0, .slice none 0 0] 69 _ (fun i hi => by match i, hi with | 0, _ => rfl | 1, _ => rfl | 2, _ => rfl | 3, _ => rfl)

theorem below_of_kp {w w1 : World} {o : Obj} (h : Kp (w.alloc o) w1 w.heap.size (.slice none 0 0)) : Below w.heap.size w w1 := by
  refine ⟨h.os, h.tape, h.output, by have := h.size; simp at this; omega, fun b hb => ?_⟩
  rw [h.block b (by simp; omega) (by omega) (by simp [Value.ownBlock]), Below.heap_alloc w o b hb]

theorem pnum_int (B gx v n : Nat) (V : Int) (b : List Nat) (vs vd vb : Value) (w : World) (hV : V = (v : Int)) (h : Pn B w gx b vs vd vb) (hB : B ≤ w.heap.size) (hl : b.length + n ≤ 1000000) (hv : v < 65536) (hn : n ≤ 16) :
    Calls Tryd.prog 43 #[.pointer (some ⟨gx, 0, none⟩), .int .i64 V, .int .i64 (n : Int)] w fun e w' => e = .returned (.tuple #[]) ∧ RunsP B w w' gx (b ++ numB v n) vs vd vb := by
  subst hV; exact pnum_any B gx v n b vs vd vb w h hB hl hv hn

def StoPost (w : World) (T : ByteArray) (e : Ending) (w' : World) : Prop :=
  ∃ bs, PB bs ([1] ++ numB 0 2 ++ List.replicate 5 0 ++ numB T.size 16 ++ numB (65535 - T.size) 16) ∧ e = .returned (.string ⟨(bs ++ T.data.toList).toArray⟩) ∧ Below w.heap.size w w'

set_option maxRecDepth 4000 in
set_option maxHeartbeats 1000000 in
theorem wstored_any (T : ByteArray) (w : World) (hT : T.size ≤ 5000) : Calls Tryd.prog 26 #[.string T] w (StoPost w T) := by
  obtain ⟨i0, hi0, hz0, hs0, hby⟩ := info_parts Tryd.info5
  have h0 := pn_start w
  have hB0 : w.heap.size ≤ (w.alloc (.cells #[.slice none 0 0, .int .i64 0, .slice none 0 0, .slice none 0 0] 69)).heap.size := by simp
  go_enter Tryd.func26, Tryd.ntmps26
  go_wp2_with fail
  refine (pbegin_any w.heap.size w.heap.size 0 _ _ _ _ h0 hB0 (by omega)).mono ?_
  rintro e w1 ⟨rfl, v1, p1, k1, f1⟩
  clear h0
  go_wp2_with fail
  refine (pwhole_any w.heap.size w.heap.size 5 _ _ _ _ _ p1 (by simp [numB_length]) (by omega)).mono ?_
  rintro e w2 ⟨rfl, r2⟩
  obtain ⟨v2, p2, k2, f2⟩ := RunsP.trans k1 f1 r2
  clear r2 p1 k1 f1
  go_wp2_with fail
  refine (pnum_any w.heap.size w.heap.size T.size 16 _ _ _ _ _ p2 (Nat.le_trans hB0 k2.size) (by simp [numB_length]) (by omega) (by omega)).mono ?_
  rintro e w3 ⟨rfl, r3⟩
  obtain ⟨v3, p3, k3, f3⟩ := RunsP.trans k2 f2 r3
  clear r3 p2 k2 f2
  go_wp2_with fail
  refine (pnum_int w.heap.size w.heap.size (65535 - T.size) 16 _ _ _ _ _ _ (by omega) p3 (Nat.le_trans hB0 k3.size) (by simp [numB_length]) (by omega) (by omega)).mono ?_
  rintro e w4 ⟨rfl, r4⟩
  obtain ⟨v4, p4, k4, f4⟩ := RunsP.trans k3 f3 r4
  clear r4 p3 k3 f3
  have c0 := p4.c0
  obtain ⟨bs, hpb, hown⟩ := p4.own
  have hl := hpb.len
  simp only [List.length_append, List.length_replicate, numB_length, List.length_singleton] at hl
  have hl5 : bs.length ≤ 5 := by omega
  have hb4 := below_of_kp k4
  have hB4 := Nat.le_trans hB0 k4.size
  have hv4 : ∀ g, v4.ownBlock = some g → w.heap.size ≤ g := fun g e => (hown.lt g e).1
  clear hl p4 k4 f4
  go_wp2_with (first | (at_builtin; refine Lib.wpList_append_own_string _ rfl (.tmp 18) (.tmp 19) 32 9 rfl w.heap.size 5 i0 Tryd.underlying32 Tryd.underlying9 hi0 hz0 hs0 hby v4 bs.length _ rfl hown T rfl (by unfold maxLen; omega) (by omega) hB4 ?_) | fail)
  intro v5 w5 ho5 hg5 _
  have ho6 : w5.ownsRow w.heap.size 5 1 v5 (bs ++ T.data.toList).length (byteVals (bs ++ T.data.toList)) := by
    have e1 : (bs ++ T.data.toList).length = bs.length + T.size := by rw [List.length_append, Array.length_toList]; rfl
    have e2 : byteVals (bs ++ T.data.toList) = byteVals bs ++ Lib.strCells T := by unfold byteVals Lib.strCells; rw [List.map_append]
    rw [e1, e2]; exact ho5
  have cv := conv_own ho6
  have hb5 := hb4.grown hg5 hb4.size hv4
  clear ho5 ho6 hg5 hown c0
  go_wp2
  go_ret
  exact ⟨bs, hpb, rfl, hb5⟩

def CodPost (w : World) (T : ByteArray) (e : Ending) (w' : World) : Prop :=
  ∃ bs b, AllR T T.size b ∧ PB bs ([1] ++ numB 1 2 ++ (b ++ symB 256)) ∧ e = .returned (.string ⟨bs.toArray⟩) ∧ Below w.heap.size w w'

theorem Pn.setVs {B : Nat} {w : World} {gx : Nat} {b : List Nat} {vs vd vb : Value} (h : Pn B w gx b vs vd vb) (v : Value) : Pn B (w.setCell ⟨gx, 2, none⟩ v) gx b v vd vb := by
  obtain ⟨bs, hpb, q1, q2⟩ := h.own
  refine ⟨h.le, (h.row.set 2 _).congr (fun i hi => ?_), ⟨bs, hpb, q1, ?_⟩, h.ne⟩
  · rcases (by omega : i = 0 ∨ i = 1 ∨ i = 2 ∨ i = 3) with e | e | e | e <;> subst e <;> simp
  · rcases q2 with q2 | ⟨g, cap, cur, hv, hg, hh, r⟩
    · exact Or.inl q2
    · exact Or.inr ⟨g, cap, cur, hv, hg, by rw [Below.heap_setCell _ _ _ _ (by intro e; exact h.ne (by rw [hv]; show some g = some gx; rw [e]))]; exact hh, r⟩
theorem Pn.setVd {B : Nat} {w : World} {gx : Nat} {b : List Nat} {vs vd vb : Value} (h : Pn B w gx b vs vd vb) (v : Value) : Pn B (w.setCell ⟨gx, 3, none⟩ v) gx b vs v vb := by
  obtain ⟨bs, hpb, q1, q2⟩ := h.own
  refine ⟨h.le, (h.row.set 3 _).congr (fun i hi => ?_), ⟨bs, hpb, q1, ?_⟩, h.ne⟩
  · rcases (by omega : i = 0 ∨ i = 1 ∨ i = 2 ∨ i = 3) with e | e | e | e <;> subst e <;> simp
  · rcases q2 with q2 | ⟨g, cap, cur, hv, hg, hh, r⟩
    · exact Or.inl q2
    · exact Or.inr ⟨g, cap, cur, hv, hg, by rw [Below.heap_setCell _ _ _ _ (by intro e; exact h.ne (by rw [hv]; show some g = some gx; rw [e]))]; exact hh, r⟩
theorem Pn.later {B : Nat} {w w1 : World} {gx : Nat} {b : List Nat} {vs vd vb : Value} (h : Pn B w gx b vs vd vb) (hb : Below w.heap.size w w1) : Pn B w1 gx b vs vd vb := by
  obtain ⟨bs, hpb, q1, q2⟩ := h.own
  refine ⟨h.le, h.row.of_block (hb.block gx h.row.lt), ⟨bs, hpb, q1, ?_⟩, h.ne⟩
  rcases q2 with q2 | ⟨g, cap, cur, hv, hg, hh, r⟩
  · exact Or.inl q2
  · exact Or.inr ⟨g, cap, cur, hv, hg, (hb.block g (Array.getElem?_eq_some_iff.1 hh).1).trans hh, r⟩

theorem wsym0_any (B gx gs gd i : Nat) (b : List Nat) (vb : Value) (w : World) (h : Wr B w gx b gs gd vb) (hB : B ≤ w.heap.size) (hl : b.length + 15 ≤ 1000000) (hi : i < 288) :
    Calls Tryd.prog 41 #[.pointer (some ⟨gx, 0, none⟩), .string (codeT fixZ 288 i)] w fun e w' => e = .returned (.tuple #[]) ∧ RunsW B w w' gx (b ++ symB i) gs gd vb := by
  rw [codeT_fix hi]
  refine (pcode_any B gx _ _ b _ _ vb w h.pn hB (by have := fixZ_nat i; omega) (fixZ_nat i)).mono ?_
  rintro e w' ⟨rfl, hr⟩
  exact ⟨rfl, h.runs hr⟩

set_option maxRecDepth 4000 in
set_option maxHeartbeats 2000000 in
theorem wcoded_any (T : ByteArray) (w : World) (hT : T.size ≤ 5000) : Calls Tryd.prog 25 #[.string T] w (CodPost w T) := by
  have h0 := pn_start w
  have hB0 : w.heap.size + 1 = (w.alloc (.cells #[.slice none 0 0, .int .i64 0, .slice none 0 0, .slice none 0 0] 69)).heap.size := by simp
  have hA0 : Below w.heap.size w (w.alloc (.cells #[.slice none 0 0, .int .i64 0, .slice none 0 0, .slice none 0 0] 69)) := (Below.refl _ _).alloc (Nat.le_refl _) _
  go_enter Tryd.func25, Tryd.ntmps25
  go_wp2_with fail
  generalize w.alloc (.cells #[.slice none 0 0, .int .i64 0, .slice none 0 0, .slice none 0 0] 69) = w0 at h0 hB0 hA0 ⊢
  refine (fixedSymbols_any _).mono ?_
  rintro e w1 ⟨g1, cq1, rfl, o1, b1⟩
  go_wp2_with fail
  refine (texts_any g1 0 288 cq1 fixZ _ o1.ints (by omega)).mono ?_
  rintro e w2 (⟨hf, rfl, hb⟩ | ⟨hf, gs, rfl, hgs, hrow, b2⟩)
  · rw [fix_fit] at hf; exact absurd hf (by simp)
  have hs1 := b1.size
  have b12 := b1.trans (b2.mono hs1)
  have hs2 := b12.size
  have h2 := h0.later b12
  have c2 := h2.c2
  have f2 := h2.fz 2
  have hA2 := hA0.trans (b12.mono hA0.size)
  have h3 := h2.setVs (.slice (some ⟨gs, 0, none⟩) 288 288)
  have hrow3 := hrow.setOther (a := ⟨w.heap.size, 2, none⟩) (by show gs ≠ w.heap.size; omega) (.slice (some ⟨gs, 0, none⟩) 288 288)
  have hA3 : Below w.heap.size w (w2.setCell ⟨w.heap.size, 2, none⟩ (.slice (some ⟨gs, 0, none⟩) 288 288)) := hA2.setCell (Nat.le_refl _) _
  have hs3 : (w2.setCell ⟨w.heap.size, 2, none⟩ (.slice (some ⟨gs, 0, none⟩) 288 288)).heap.size = w2.heap.size := by simp [World.setCell]
  have hgs0 : w.heap.size + 1 ≤ gs := by omega
  clear o1 b1 b2 b12 hrow hA2 hA0 hf
  go_wp2_with fail
  clear c2 f2 h2 h0
  generalize w2.setCell ⟨w.heap.size, 2, none⟩ (.slice (some ⟨gs, 0, none⟩) 288 288) = w3 at h3 hrow3 hA3 hs3 ⊢
  refine (fixedDistances_any _).mono ?_
  rintro e w4 ⟨g4, cq4, rfl, o4, b4⟩
  go_wp2_with fail
  refine (texts_any g4 0 32 cq4 fivZ _ o4.ints (by omega)).mono ?_
  rintro e w5 (⟨hf, rfl, hb⟩ | ⟨hf, gd, rfl, hgd, hrow5, b5⟩)
  · rw [fiv_fit] at hf; exact absurd hf (by simp)
  have hs4 := b4.size
  have b45 := b4.trans (b5.mono hs4)
  have hs5 := b45.size
  have h5 := h3.later b45
  have c3 := h5.c3
  have f3 := h5.fz 3
  have hA5 := hA3.trans (b45.mono hA3.size)
  have hl3 := hrow3.lt
  have hrow6 := (hrow3.of_block (b45.block gs hl3)).setOther (a := ⟨w.heap.size, 3, none⟩) (by show gs ≠ w.heap.size; omega) (.slice (some ⟨gd, 0, none⟩) 32 32)
  have hrow7 := hrow5.setOther (a := ⟨w.heap.size, 3, none⟩) (by show gd ≠ w.heap.size; omega) (.slice (some ⟨gd, 0, none⟩) 32 32)
  have h6 : Wr w.heap.size (w5.setCell ⟨w.heap.size, 3, none⟩ (.slice (some ⟨gd, 0, none⟩) 32 32)) w.heap.size [] gs gd (.slice none 0 0) := ⟨h5.setVd _, hrow6, hrow7, ⟨by omega, by simp [Value.ownBlock]⟩, ⟨by omega, by simp [Value.ownBlock]⟩⟩
  have hA6 : Below w.heap.size w (w5.setCell ⟨w.heap.size, 3, none⟩ (.slice (some ⟨gd, 0, none⟩) 32 32)) := hA5.setCell (Nat.le_refl _) _
  clear o4 b4 b5 b45 hrow5 hrow6 hrow7 hA5 hA3 hrow3 hl3 hf
  go_wp2_with fail
  clear c3 f3 h5 h3
  generalize w5.setCell ⟨w.heap.size, 3, none⟩ (.slice (some ⟨gd, 0, none⟩) 32 32) = w6 at h6 hA6 ⊢
  have hB6 := hA6.size
  refine (pbegin_any w.heap.size w.heap.size 1 _ _ _ _ h6.pn hB6 (by omega)).mono ?_
  rintro e w7 ⟨rfl, r7⟩
  obtain ⟨v7, h7, k7, f7⟩ := h6.runs r7
  have hB7 := Nat.le_trans hB6 k7.size
  clear r7
  go_wp2_with fail
  refine (wall_any w.heap.size w.heap.size gs gd _ v7 T _ h7 hB7 (by simp [numB_length]) hT).mono ?_
  rintro e w8 ⟨rfl, b, hAll, r8⟩
  obtain ⟨v8, h8, k8, f8⟩ := RunsW.trans k7 f7 r8
  have hB8 := Nat.le_trans hB6 k8.size
  have c28 := h8.pn.c2
  have cs := h8.syms.cell (i := 256) (by omega)
  have hlb := hAll.len
  clear r8 h7 k7 f7
  go_wp2_with fail
  refine (wsym0_any w.heap.size w.heap.size gs gd 256 _ v8 _ h8 hB8 (by simp only [List.length_append, numB_length, List.length_singleton]; omega) (by omega)).mono ?_
  rintro e w9 ⟨rfl, r9⟩
  obtain ⟨v9, h9, k9, f9⟩ := RunsW.trans k8 f8 r9
  clear r9 h8 k8 f8 c28 cs
  have c0 := h9.pn.c0
  obtain ⟨bs, hpb, hown⟩ := h9.pn.own
  have cv := conv_own hown
  have hA9 : Below w.heap.size w w9 := by
    refine ⟨k9.os.trans hA6.os, k9.tape.trans hA6.tape, k9.output.trans hA6.output, Nat.le_trans hB6 k9.size, fun b hb => ?_⟩
    rw [k9.block b (by omega) (by omega) (by simp [Value.ownBlock]), hA6.block b hb]
  rw [List.append_assoc] at hpb
  clear h9 k9 f9 hown
  go_wp2
  go_ret
  exact ⟨bs, b, hAll, hpb, rfl, hA9⟩

end Go.Proofs.YtnfghnolklhppaaDoor

/- The program's Write and Deflate. -/
namespace Go.Proofs.YtnfghnolklhppaaDoor
open Go.RowKit

/-- What Deflate answers of a text that is not too long. -/
structure DefOk (T S : ByteArray) : Prop where
  run : ∃ p, runF S = ⟨p, T.data.toList, 0, true⟩ ∧ (p + 7) / 8 = S.size
  one : 1 ≤ S.size
  len : S.size ≤ T.size + T.size / 8 + 16
  uni : Uni T → S.size ≤ T.size / 20 + 32
  le : S.size ≤ 100000

theorem size_of_list (l : List UInt8) : (⟨l.toArray⟩ : ByteArray).size = l.length := by simp [ByteArray.size]

theorem def_ok {T : ByteArray} {bs b1 : List UInt8} {b : List Nat} (hT : T.size ≤ 5000) (hA : AllR T T.size b) (hp : PB b1 ([1] ++ numB 1 2 ++ (b ++ symB 256))) (hs : PB bs ([1] ++ numB 0 2 ++ List.replicate 5 0 ++ numB T.size 16 ++ numB (65535 - T.size) 16)) :
    ((⟨(bs ++ T.data.toList).toArray⟩ : ByteArray).size < (⟨b1.toArray⟩ : ByteArray).size → DefOk T ⟨(bs ++ T.data.toList).toArray⟩) ∧ (¬ (⟨(bs ++ T.data.toList).toArray⟩ : ByteArray).size < (⟨b1.toArray⟩ : ByteArray).size → DefOk T ⟨b1.toArray⟩) := by
  have hl : T.data.toList.length = T.size := Array.length_toList
  have h1 := hp.len
  have h7 : (symB 256).length = 7 := by rw [symB_length]; rfl
  simp only [List.length_append, numB_length, List.length_singleton, h7] at h1
  have r1 := hA.dec.whole hp
  rw [pre_whole] at r1
  rw [← hl] at hs
  obtain ⟨h5, r2⟩ := stored_whole (by omega) hs
  rw [hl] at r2
  have hsz : (bs ++ T.data.toList).length = 5 + T.size := by rw [List.length_append]; omega
  have hb32 := hA.len
  simp only [size_of_list, hsz]
  refine ⟨fun hc => ⟨⟨_, r2, ?_⟩, ?_, ?_, fun hu => ?_, ?_⟩, fun hc => ⟨⟨_, r1, ?_⟩, ?_, ?_, fun hu => ?_, ?_⟩⟩ <;> simp only [size_of_list, hsz]
  · omega
  · omega
  · omega
  · have := hA.short hu
    omega
  · omega
  · omega
  · omega
  · omega
  · have := hA.short hu
    omega
  · omega

def DefPost (w : World) (T : ByteArray) (e : Ending) (w' : World) : Prop := ∃ S, DefOk T S ∧ e = .returned (.string S) ∧ Below w.heap.size w w'

set_option maxHeartbeats 400000 in
theorem write_any (T : ByteArray) (w : World) (hT : T.size ≤ 5000) : Calls Tryd.prog 15 #[.string T] w (DefPost w T) := by
  go_enter Tryd.func15, Tryd.ntmps15
  go_wp2_with fail
  refine (wcoded_any T _ hT).mono ?_
  rintro e w1 ⟨b1, b, hA, hp, rfl, hb1⟩
  go_wp2_with fail
  refine (wstored_any T _ hT).mono ?_
  rintro e w2 ⟨bs, hs, rfl, hb2⟩
  have hB := hb1.trans (hb2.mono hb1.size)
  obtain ⟨d1, d2⟩ := def_ok hT hA hp hs
  clear hA hp hs hb1 hb2
  generalize (⟨(bs ++ T.data.toList).toArray⟩ : ByteArray) = S1 at d1 d2 ⊢
  generalize (⟨b1.toArray⟩ : ByteArray) = S2 at d1 d2 ⊢
  by_cases hc : S1.size < S2.size
  · have D := d1 hc
    clear d1 d2
    go_wp2
    go_ret
    exact ⟨S1, D, rfl, hB⟩
  · have D := d2 hc
    clear d1 d2
    go_wp2
    go_ret
    exact ⟨S2, D, rfl, hB⟩

def DeflPost (w : World) (T : ByteArray) (e : Ending) (w' : World) : Prop :=
  (5000 < T.size ∧ e = .returned (.tuple #[.string .empty, .int .i64 3]) ∧ w' = w) ∨ (T.size ≤ 5000 ∧ ∃ S, DefOk T S ∧ e = .returned (.tuple #[.string S, .int .i64 0]) ∧ Below w.heap.size w w')

set_option maxHeartbeats 400000 in
theorem deflate_any (T : ByteArray) (w : World) : Calls Tryd.prog 11 #[.string T] w (DeflPost w T) := by
  by_cases hT : T.size ≤ 5000
  · have hI : ¬ (5000 : Int) < (T.size : Int) := by omega
    go_enter Tryd.func11, Tryd.ntmps11
    go_wp2_with fail
    refine (write_any T _ hT).mono ?_
    rintro e w1 ⟨S, hD, rfl, hb⟩
    go_wp2
    go_ret2
    exact Or.inr ⟨hT, S, hD, rfl, hb⟩
  · have hI : (5000 : Int) < (T.size : Int) := by omega
    go_enter Tryd.func11, Tryd.ntmps11
    go_wp2
    go_ret2
    exact Or.inl ⟨by omega, rfl, rfl⟩

end Go.Proofs.YtnfghnolklhppaaDoor
