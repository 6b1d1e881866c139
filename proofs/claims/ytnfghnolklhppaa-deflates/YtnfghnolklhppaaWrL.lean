/- The program's writer: length, distance. -/
import Derived.Test.YtnfghnolklhppaaPenN
import Derived.Test.YtnfghnolklhppaaTexts
import Derived.Deep.RegionWith
namespace Go.Proofs.Ytnfghnolklhppaa
open Go.RowKit

/-- The writer with its codes. -/
structure Wr (B : Nat) (w : World) (gx : Nat) (b : List Nat) (gs gd : Nat) (vb : Value) : Prop where
  pn : Pn B w gx b (.slice (some ⟨gs, 0, none⟩) 288 288) (.slice (some ⟨gd, 0, none⟩) 32 32) vb
  syms : w.rowIs gs 9 288 (fun i => .string (codeT fixZ 288 i))
  diss : w.rowIs gd 9 32 (fun i => .string (codeT fivZ 32 i))
  ns : gs ≠ gx ∧ vb.ownBlock ≠ some gs
  nd : gd ≠ gx ∧ vb.ownBlock ≠ some gd

def RunsW (B : Nat) (w w' : World) (gx : Nat) (b : List Nat) (gs gd : Nat) (vb : Value) : Prop :=
  ∃ vb', Wr B w' gx b gs gd vb' ∧ Kp w w' gx vb ∧ ∀ g, vb'.ownBlock = some g → vb.ownBlock = some g ∨ w.heap.size ≤ g

theorem Wr.runs {B : Nat} {w w' : World} {gx : Nat} {b b' : List Nat} {gs gd : Nat} {vb : Value} (h : Wr B w gx b gs gd vb) (hr : RunsP B w w' gx b' (.slice (some ⟨gs, 0, none⟩) 288 288) (.slice (some ⟨gd, 0, none⟩) 32 32) vb) : RunsW B w w' gx b' gs gd vb := by
  obtain ⟨vb', hp, hk, hf⟩ := hr
  have l1 := h.syms.lt
  have l2 := h.diss.lt
  refine ⟨vb', ⟨hp, h.syms.of_block (hk.block gs l1 h.ns.1 h.ns.2), h.diss.of_block (hk.block gd l2 h.nd.1 h.nd.2), ⟨h.ns.1, fun e => ?_⟩, ⟨h.nd.1, fun e => ?_⟩⟩, hk, hf⟩
  · rcases hf gs e with e | e
    · exact h.ns.2 e
    · omega
  · rcases hf gd e with e | e
    · exact h.nd.2 e
    · omega
theorem RunsW.refl {B : Nat} {w : World} {gx : Nat} {b : List Nat} {gs gd : Nat} {vb : Value} (h : Wr B w gx b gs gd vb) : RunsW B w w gx b gs gd vb := ⟨vb, h, Kp.refl _ _ _, fun _ hg => Or.inl hg⟩
theorem Kp.andThen {w w1 w2 : World} {gx : Nat} {vb vb1 : Value} (k1 : Kp w w1 gx vb) (f1 : ∀ g, vb1.ownBlock = some g → vb.ownBlock = some g ∨ w.heap.size ≤ g) (k2 : Kp w1 w2 gx vb1) : Kp w w2 gx vb := by
  refine ⟨k2.os.trans k1.os, k2.tape.trans k1.tape, k2.output.trans k1.output, Nat.le_trans k1.size k2.size, fun b hb hx hv => ?_⟩
  rw [k2.block b (Nat.lt_of_lt_of_le hb k1.size) hx (fun e => ?_), k1.block b hb hx hv]
  rcases f1 b e with e' | e'
  · exact hv e'
  · omega
theorem RunsW.trans {B : Nat} {w w1 w2 : World} {gx : Nat} {b2 : List Nat} {gs gd : Nat} {vb vb1 : Value} (k1 : Kp w w1 gx vb) (f1 : ∀ g, vb1.ownBlock = some g → vb.ownBlock = some g ∨ w.heap.size ≤ g) (h2 : RunsW B w1 w2 gx b2 gs gd vb1) : RunsW B w w2 gx b2 gs gd vb := by
  obtain ⟨vb2, s2, k2, f2⟩ := h2
  refine ⟨vb2, s2, k1.andThen f1 k2, fun g hg => ?_⟩
  rcases f2 g hg with e | e
  · exact f1 g e
  · exact Or.inr (Nat.le_trans k1.size e)
theorem Wr.drewN {B : Nat} {w : World} {gx : Nat} {b : List Nat} {gs gd : Nat} {vb : Value} (h : Wr B w gx b gs gd vb) (q : Nat) : Wr B (w.drewN q) gx b gs gd vb := ⟨h.pn.drewN q, h.syms.of_block rfl, h.diss.of_block rfl, h.ns, h.nd⟩
theorem Wr.drew {B : Nat} {w : World} {gx : Nat} {b : List Nat} {gs gd : Nat} {vb : Value} (h : Wr B w gx b gs gd vb) : Wr B w.drew gx b gs gd vb := ⟨⟨h.pn.le, h.pn.row.drew, h.pn.own, h.pn.ne⟩, h.syms.of_block rfl, h.diss.of_block rfl, h.ns, h.nd⟩

theorem codeT_fix {i : Nat} (h : i < 288) : codeT fixZ 288 i = bitsB (codeN fixZ 288 i) (fixZ i).toNat := codeT_eq fix_full h
theorem codeT_fiv {i : Nat} (h : i < 32) : codeT fivZ 32 i = bitsB (codeN fivZ 32 i) (fivZ i).toNat := codeT_eq fiv_full h
theorem fixZ_nat (i : Nat) : (fixZ i).toNat ≤ 15 := by have := fixZ_one i; omega

/-- A symbol is written. -/
theorem wsym_any (B gx gs gd i : Nat) (b : List Nat) (vb : Value) (w w0 : World) (hw : w0 = w.drew) (h : Wr B w gx b gs gd vb) (hB : B ≤ w.heap.size) (hl : b.length + 15 ≤ 1000000) (hi : i < 288) :
    Calls Try.prog 42 #[.pointer (some ⟨gx, 0, none⟩), .string (codeT fixZ 288 i)] w0 fun e w' => e = .returned (.tuple #[]) ∧ RunsW B w w' gx (b ++ symB i) gs gd vb := by
  subst hw
  rw [codeT_fix hi]
  refine (pcode_any B gx _ _ b _ _ vb w.drew h.drew.pn hB (by have := fixZ_nat i; omega) (fixZ_nat i)).mono ?_
  rintro e w' ⟨rfl, hr⟩
  refine ⟨rfl, RunsW.trans (Kp.drewN (Kp.refl w gx vb) 1) (fun _ hg => Or.inl hg) (h.drew.runs hr)⟩
theorem wdis_any (B gx gs gd i : Nat) (b : List Nat) (vb : Value) (w w0 : World) (hw : w0 = w.drew) (h : Wr B w gx b gs gd vb) (hB : B ≤ w.heap.size) (hl : b.length + 15 ≤ 1000000) (hi : i < 32) :
    Calls Try.prog 42 #[.pointer (some ⟨gx, 0, none⟩), .string (codeT fivZ 32 i)] w0 fun e w' => e = .returned (.tuple #[]) ∧ RunsW B w w' gx (b ++ disB i) gs gd vb := by
  subst hw
  rw [codeT_fiv hi]
  refine (pcode_any B gx _ _ b _ _ vb w.drew h.drew.pn hB (by show b.length + 5 ≤ _; omega) (by show 5 ≤ 15; omega)).mono ?_
  rintro e w' ⟨rfl, hr⟩
  refine ⟨rfl, RunsW.trans (Kp.drewN (Kp.refl w gx vb) 1) (fun _ hg => Or.inl hg) (h.drew.runs hr)⟩

theorem placedL_int (v : Nat) (V : Int) (hV : V = (v : Int)) (hv : v < 255) (w : World) :
    Calls Try.prog 62 #[.int .i64 V, .int .i64 2] w fun e w' => ∃ p, PlL v p ∧ e = .returned (.tuple #[.int .i64 (p : Nat), .int .i64 (v - tellL p : Nat), .int .i64 (addL p : Nat)]) ∧ w' = w := by
  subst hV; exact placedL_any v hv w
theorem placedD_int (v : Nat) (V : Int) (hV : V = (v : Int)) (hv : v < 5000) (w : World) :
    Calls Try.prog 62 #[.int .i64 V, .int .i64 1] w fun e w' => ∃ p, PlD v p ∧ e = .returned (.tuple #[.int .i64 (p : Nat), .int .i64 (v - tellD p : Nat), .int .i64 (addD p : Nat)]) ∧ w' = w := by
  subst hV; exact placedD_any v hv w

set_option maxRecDepth 4000 in
set_option maxHeartbeats 1000000 in
theorem wlen_any (B gx gs gd n : Nat) (b : List Nat) (vb : Value) (w : World) (h : Wr B w gx b gs gd vb) (hB : B ≤ w.heap.size) (hl : b.length + 30 ≤ 1000000) (h3 : 3 ≤ n) (h258 : n ≤ 258) :
    Calls Try.prog 55 #[.pointer (some ⟨gx, 0, none⟩), .int .i64 (n : Int)] w fun e w' => e = .returned (.tuple #[]) ∧ ∃ p, (n ≠ 258 → PlL (n - 3) p) ∧ RunsW B w w' gx (b ++ lenB n p) gs gd vb := by
  have c2 := h.pn.c2
  by_cases hn : n = 258
  · have c285 := h.syms.cell (i := 285) (by omega)
    have HB : Hid (∀ p, lenB n p = symB 285) := fun p => by unfold lenB; rw [if_pos hn]
    subst hn
    go_enter Try.func55, Try.ntmps55
    go_wp2
    go_region_with (go_at_call 42; refine (wsym_any B gx gs gd 285 b vb w _ rfl h hB (by omega) (by omega)).mono ?_; rintro e w2 ⟨rfl, hr⟩)
    go_wp2
    refine bodyPost_ret (results_none rfl _ _ _) rfl ?_
    exact ⟨rfl, 0, fun e => absurd rfl e, by rw [HB.out]; exact hr⟩
  · have hnI : ¬ (n : Int) = 258 := by omega
    go_enter Try.func55, Try.ntmps55
    go_wp2_with fail
    refine (placedL_int (n - 3) ((n : Int) - 3) (by omega) (by omega) _).mono ?_
    rintro e w1 ⟨p, hpl, rfl, rfl⟩
    obtain ⟨hp1, hp2, hp3⟩ := hpl
    obtain ⟨hu1, hu2, hu3⟩ := tellL_up p hp1
    obtain ⟨y, hy⟩ : ∃ y, y = 257 + p := ⟨_, rfl⟩
    have cp := h.syms.cell (i := y) (by omega)
    have hIx : (257 : Int) + (p : Int) = (y : Int) := by omega
    have hIl : (y : Int) < 288 := by omega
    have hpw : 2 ^ addL p ≤ 2 ^ 5 := Nat.pow_le_pow_right (by omega) hu3
    have HB : Hid (lenB n p = symB y ++ numB (n - 3 - tellL p) (addL p)) := by show _ = _; unfold lenB; rw [if_neg hn, hy]
    have hy2 : y < 288 := by omega
    have hwy : IntKind.i64.wrap (y : Int) = (y : Int) := by rw [IntKind.wrap_i64]; omega
    clear hy
    have HP : Hid (PlL (n - 3) p) := ⟨hp1, hp2, hp3⟩
    have hxv : n - 3 - tellL p < 65536 := by omega
    have ha16 : addL p ≤ 5 := hu3
    clear hp2 hp3 hu1 hu2 hu3 hpw
    generalize n - 3 - tellL p = X at HB hxv ⊢
    generalize addL p = A at HB ha16 ⊢
    go_wp2
    go_region_with (go_at_call 42; refine (wsym_any B gx gs gd y b vb w1 _ rfl h hB (by omega) (by omega)).mono ?_; rintro e w2 ⟨rfl, vb2, hW2, hk2, hf2⟩)
    go_wp2_with fail
    refine (pnum_any B gx X A (b ++ symB y) _ _ vb2 _ hW2.pn (Nat.le_trans hB hk2.size) (by have := (symB_le y).1; rw [List.length_append]; omega) hxv (by omega)).mono ?_
    rintro e w3 ⟨rfl, hr⟩
    have R := RunsW.trans hk2 hf2 (hW2.runs hr)
    rw [List.append_assoc, ← HB.out] at R
    clear hr hW2 hk2 hf2
    go_wp2
    go_end0
    exact ⟨rfl, p, fun _ => HP.out, R⟩

set_option maxRecDepth 4000 in
set_option maxHeartbeats 1000000 in
theorem wdist_any (B gx gs gd d : Nat) (b : List Nat) (vb : Value) (w : World) (h : Wr B w gx b gs gd vb) (hB : B ≤ w.heap.size) (hl : b.length + 30 ≤ 1000000) (h1 : 1 ≤ d) (h5 : d ≤ 5000) :
    Calls Try.prog 56 #[.pointer (some ⟨gx, 0, none⟩), .int .i64 (d : Int)] w fun e w' => e = .returned (.tuple #[]) ∧ ∃ q, PlD (d - 1) q ∧ RunsW B w w' gx (b ++ dstB d q) gs gd vb := by
  have c3 := h.pn.c3
  go_enter Try.func56, Try.ntmps56
  go_wp2_with fail
  refine (placedD_int (d - 1) ((d : Int) - 1) (by omega) (by omega) _).mono ?_
  rintro e w1 ⟨p, hpl, rfl, rfl⟩
  obtain ⟨hp1, hp2, hp3⟩ := hpl
  obtain ⟨hu1, hu2, hu3⟩ := tellD_up p (by omega)
  have cp := h.diss.cell (i := p) (by omega)
  have hIl : (p : Int) < 32 := by omega
  have hpw : 2 ^ addD p ≤ 2 ^ 13 := Nat.pow_le_pow_right (by omega) hu3
  have HB : Hid (dstB d p = disB p ++ numB (d - 1 - tellD p) (addD p)) := rfl
  have HP : Hid (PlD (d - 1) p) := ⟨hp1, hp2, hp3⟩
  have hxv : d - 1 - tellD p < 65536 := by omega
  have ha16 : addD p ≤ 13 := hu3
  clear hp2 hp3 hu1 hu2 hu3 hpw
  generalize d - 1 - tellD p = X at HB hxv ⊢
  generalize addD p = A at HB ha16 ⊢
  go_wp2
  go_region_with (go_at_call 42; refine (wdis_any B gx gs gd p b vb w1 _ rfl h hB (by omega) (by omega)).mono ?_; rintro e w2 ⟨rfl, vb2, hW2, hk2, hf2⟩)
  go_wp2_with fail
  refine (pnum_any B gx X A (b ++ disB p) _ _ vb2 _ hW2.pn (Nat.le_trans hB hk2.size) (by have := disB_length p; rw [List.length_append]; omega) hxv (by omega)).mono ?_
  rintro e w3 ⟨rfl, hr⟩
  have R := RunsW.trans hk2 hf2 (hW2.runs hr)
  rw [List.append_assoc, ← HB.out] at R
  clear hr hW2 hk2 hf2
  go_wp2
  go_end0
  exact ⟨rfl, p, HP.out, R⟩

end Go.Proofs.Ytnfghnolklhppaa
