import Derived.Test.YtecddphahiadlaaGreatDoorCPair
import Derived.OwnWalk
import Derived.Test.YtecddphahiadlaaGreatDoorCGSymr
/- The program's measure and placed. -/
namespace Go.Proofs.YtecddphahiadlaaGreatDoor
open Go.RowKit
theorem and_three_i64 (i : Nat) (hi : i < 9223372036854775808) : bits BinOp.and IntKind.i64 (i : Int) 3 = ((i % 4 : Nat) : Int) := by
 have h1 : (BitVec.ofInt 64 (i : Int)).toNat = i := by
  rw [BitVec.ofInt_natCast, BitVec.toNat_ofNat]; exact Nat.mod_eq_of_lt (by omega)
 show IntKind.i64.wrap ((BitVec.ofInt 64 (i : Int) &&& BitVec.ofInt 64 3).toNat : Int) = _
 have h2 : (BitVec.ofInt 64 3).toNat = 3 := by decide
 have h3 : i &&& 3 = i % 4 := Nat.and_two_pow_sub_one_eq_mod i 2
 rw [BitVec.toNat_and, h1, h2, h3, IntKind.wrap_i64]
 omega
/-- What a symbol at a place tells beyond the first one, of lengths and of distances. -/
def tellL (p : Nat) : Nat := if p < 4 then p else (4 + p % 4) * 2 ^ (p / 4 - 1)
def addL (p : Nat) : Nat := if p < 4 then 0 else p / 4 - 1
def tellD (p : Nat) : Nat := if p < 2 then p else (2 + p % 2) * 2 ^ (p / 2 - 1)
def addD (p : Nat) : Nat := if p < 2 then 0 else p / 2 - 1
theorem tellL_eq : ∀ p, p < 28 → 3 + tellL p = baseN 3 8 4 p ∧ addL p = moreN 8 4 p := by decide
theorem tellD_eq : ∀ p, p < 30 → 1 + tellD p = baseN 1 4 2 p ∧ addD p = moreN 4 2 p := by decide
theorem shl_wrap (a W A : Nat) (h : a + W ≤ 8) (hA : A ≤ 14) : wrap64 (((a : Int) + (W : Int)) * 2 ^ A) = (((a + W) * 2 ^ A : Nat) : Int) := by
 have hp : 2 ^ A ≤ 2 ^ 14 := Nat.pow_le_pow_right (by omega) (by omega)
 have h14 : (2 : Nat) ^ 14 = 16384 := rfl
 have hm := Nat.mul_le_mul h hp
 have e : (((a : Int) + (W : Int)) * 2 ^ A) = (((a + W) * 2 ^ A : Nat) : Int) := by simp
 rw [e, IntWalk.wrap64_in _ ⟨by omega, by omega⟩]
set_option maxHeartbeats 400000 in
theorem measureL32_any (p : Nat) (hp : p < 32) (w : World) :
 Calls Tryz.prog 134 #[.int .i64 (p : Int), .int .i64 2] w fun e w' => e = .returned (.tuple #[.int .i64 (tellL p : Nat), .int .i64 (addL p : Nat)]) ∧ w' = w := by
 by_cases h4 : p < 4
 ·
  have H1 : Hid (tellL p = p) := by show _ = _; unfold tellL; rw [if_pos h4]
  have H2 : Hid (addL p = 0) := by show _ = _; unfold addL; rw [if_pos h4]
  go_enter Tryz.func134, Tryz.ntmps134
  go_wp2
  go_ret2
  rw [H1.out, H2.out]
  exact ⟨rfl, rfl⟩
 ·
  have H1 : Hid (tellL p = (4 + p % 4) * 2 ^ (p / 4 - 1)) := by show _ = _; unfold tellL; rw [if_neg h4]
  have H2 : Hid (addL p = p / 4 - 1) := by show _ = _; unfold addL; rw [if_neg h4]
  have ha := and_three_i64 p (by omega)
  obtain ⟨A, hA⟩ : ∃ A, A = p / 4 - 1 := ⟨_, rfl⟩
  obtain ⟨W, hW⟩ : ∃ W, W = p % 4 := ⟨_, rfl⟩
  have hAI : (p : Int) / 4 - 1 = (A : Int) := by omega
  have hAb : A ≤ 6 := by omega
  have hWb : W < 4 := by omega
  rw [← hA] at H1 H2
  rw [← hW] at ha H1
  have HS : Hid (_) := shl_wrap 4 W A (by omega) (by omega)
  clear hA hW
  go_enter Tryz.func134, Tryz.ntmps134
  go_wp2
  go_ret2
  rw [H1.out, H2.out, ← HS.out]
  exact ⟨rfl, rfl⟩
theorem measureL_any (p : Nat) (hp : p < 28) (w : World) :
 Calls Tryz.prog 134 #[.int .i64 (p : Int), .int .i64 2] w fun e w' => e = .returned (.tuple #[.int .i64 (tellL p : Nat), .int .i64 (addL p : Nat)]) ∧ w' = w := measureL32_any p (by omega) w
set_option maxHeartbeats 400000 in
theorem measureD_any (p : Nat) (hp : p < 30) (w : World) :
 Calls Tryz.prog 134 #[.int .i64 (p : Int), .int .i64 1] w fun e w' => e = .returned (.tuple #[.int .i64 (tellD p : Nat), .int .i64 (addD p : Nat)]) ∧ w' = w := by
 by_cases h4 : p < 2
 ·
  have H1 : Hid (tellD p = p) := by show _ = _; unfold tellD; rw [if_pos h4]
  have H2 : Hid (addD p = 0) := by show _ = _; unfold addD; rw [if_pos h4]
  go_enter Tryz.func134, Tryz.ntmps134
  go_wp2
  go_ret2
  rw [H1.out, H2.out]
  exact ⟨rfl, rfl⟩
 ·
  have H1 : Hid (tellD p = (2 + p % 2) * 2 ^ (p / 2 - 1)) := by show _ = _; unfold tellD; rw [if_neg h4]
  have H2 : Hid (addD p = p / 2 - 1) := by show _ = _; unfold addD; rw [if_neg h4]
  have ha := and_one_i64 p (by omega)
  obtain ⟨A, hA⟩ : ∃ A, A = p / 2 - 1 := ⟨_, rfl⟩
  obtain ⟨W, hW⟩ : ∃ W, W = p % 2 := ⟨_, rfl⟩
  have hAI : (p : Int) / 2 - 1 = (A : Int) := by omega
  have hAb : A ≤ 13 := by omega
  have hWb : W < 2 := by omega
  rw [← hA] at H1 H2
  rw [← hW] at ha H1
  have HS : Hid (_) := shl_wrap 2 W A (by omega) (by omega)
  clear hA hW
  go_enter Tryz.func134, Tryz.ntmps134
  go_wp2
  go_ret2
  rw [H1.out, H2.out, ← HS.out]
  exact ⟨rfl, rfl⟩
/-- The place that tells a value, of lengths and of distances. -/
theorem tellL_up : ∀ p, p < 28 → tellL p < tellL (p + 1) ∧ tellL (p + 1) ≤ tellL p + 2 ^ addL p ∧ addL p ≤ 5 := by decide
theorem tellD_up : ∀ p, p < 29 → tellD p < tellD (p + 1) ∧ tellD (p + 1) ≤ tellD p + 2 ^ addD p ∧ addD p ≤ 13 := by decide
def PlL (v p : Nat) : Prop := p < 28 ∧ tellL p ≤ v ∧ v < tellL (p + 1)
def PlD (v p : Nat) : Prop := p < 25 ∧ tellD p ≤ v ∧ v < tellD (p + 1)
set_option maxHeartbeats 400000 in
theorem placedL_any (v : Nat) (hv : v < 255) (w : World) :
 Calls Tryz.prog 120 #[.int .i64 (v : Int), .int .i64 2] w fun e w' => ∃ p, PlL v p ∧ e = .returned (.tuple #[.int .i64 (p : Nat), .int .i64 (v - tellL p : Nat), .int .i64 (addL p : Nat)]) ∧ w' = w := by
 go_enter Tryz.func120, Tryz.ntmps120
 go_wp2_with fail
 go_loopw [7] (fun x wr => ∃ p : Nat, p < 28 ∧ tellL p ≤ v ∧ x = .int .i64 (p : Nat) ∧ wr = w) (fun x _ => 28 - (intOf x).toNat)
 case atStart => exact ⟨0, by omega, by show 0 ≤ v; omega, rfl, rfl⟩
 case round =>
  obtain ⟨p, hp, ht, rfl, rfl⟩ := hrel
  go_wp2_with fail
  refine (measureL32_any (p + 1) (by omega) _).mono ?_
  rintro e w' ⟨rfl, rfl⟩
  by_cases hn : v < tellL (p + 1)
  ·
   have PL : PlL v p := ⟨hp, ht, hn⟩
   generalize tellL (p + 1) = T at hn ⊢
   generalize addL (p + 1) = A
   go_wp2_with fail
   refine (measureL32_any p (by omega) _).mono ?_
   rintro e w' ⟨rfl, rfl⟩
   have H1 : Hid (((v - tellL p : Nat) : Int) = (v : Int) - (tellL p : Nat)) := by show _ = _; omega
   have hb : tellL p < 255 := by omega
   go_wp2
   go_ret3
   exact ⟨p, PL, by rw [H1.out]; rfl, rfl⟩
  ·
   have d1 : decide ((v : Int) < (tellL (p + 1) : Nat)) = false := by rw [decide_eq_false_iff_not]; omega
   have hp1 : p + 1 < 28 := by
    rcases (by omega : p + 1 < 28 ∨ p + 1 = 28) with h | h
    · exact h
    ·
     exfalso
     have e : tellL 28 = 256 := by decide
     rw [h, e] at hn
     omega
   have hT : tellL (p + 1) ≤ v := by omega
   go_wp2
   go_roundw
   case rel => exact ⟨p + 1, hp1, hT, by go_num, trivial⟩
   case measure => simp [intOf]; omega
set_option maxHeartbeats 400000 in
theorem placedD_any (v : Nat) (hv : v < 5000) (w : World) :
 Calls Tryz.prog 120 #[.int .i64 (v : Int), .int .i64 1] w fun e w' => ∃ p, PlD v p ∧ e = .returned (.tuple #[.int .i64 (p : Nat), .int .i64 (v - tellD p : Nat), .int .i64 (addD p : Nat)]) ∧ w' = w := by
 go_enter Tryz.func120, Tryz.ntmps120
 go_wp2_with fail
 go_loopw [7] (fun x wr => ∃ p : Nat, p < 25 ∧ tellD p ≤ v ∧ x = .int .i64 (p : Nat) ∧ wr = w) (fun x _ => 25 - (intOf x).toNat)
 case atStart => exact ⟨0, by omega, by show 0 ≤ v; omega, rfl, rfl⟩
 case round =>
  obtain ⟨p, hp, ht, rfl, rfl⟩ := hrel
  go_wp2_with fail
  refine (measureD_any (p + 1) (by omega) _).mono ?_
  rintro e w' ⟨rfl, rfl⟩
  by_cases hn : v < tellD (p + 1)
  ·
   have PL : PlD v p := ⟨hp, ht, hn⟩
   generalize tellD (p + 1) = T at hn ⊢
   generalize addD (p + 1) = A
   go_wp2_with fail
   refine (measureD_any p (by omega) _).mono ?_
   rintro e w' ⟨rfl, rfl⟩
   have H1 : Hid (((v - tellD p : Nat) : Int) = (v : Int) - (tellD p : Nat)) := by show _ = _; omega
   have hb : tellD p < 5000 := by omega
   go_wp2
   go_ret3
   exact ⟨p, PL, by rw [H1.out]; rfl, rfl⟩
  ·
   have d1 : decide ((v : Int) < (tellD (p + 1) : Nat)) = false := by rw [decide_eq_false_iff_not]; omega
   have hp1 : p + 1 < 25 := by
    rcases (by omega : p + 1 < 25 ∨ p + 1 = 25) with h | h
    · exact h
    ·
     exfalso
     have e : tellD 25 = 6144 := by decide
     rw [h, e] at hn
     omega
   have hT : tellD (p + 1) ≤ v := by omega
   go_wp2
   go_roundw
   case rel => exact ⟨p + 1, hp1, hT, by go_num, trivial⟩
   case measure => simp [intOf]; omega
/- The program's measure, Empty, length, distance. -/
theorem codeT_size {z : Nat → Int} {n : Nat} (h : Tidy z n) : ∀ i, i < n → (codeT z n i).size ≤ 15 := by
 intro i hi
 have hr := h.rng i hi
 by_cases h0 : z i = 0
 · rw [codeT_none h0]; decide
 · rw [codeT_one (by omega), bitsB_size]; omega
theorem empty_any (z : Nat → Int) (n g : Nat) (w : World) (hz : ∀ i, i < n → 0 ≤ z i ∧ z i ≤ 15) :
 Calls Tryz.prog 139 #[setV z n g] w fun e w' => e = .returned (.bool (decide (pas (cntN z n) 15 = 0))) ∧ ∃ o, w' = w.alloc o := by
 have hrow := setA_row (cntN z n) (.slice (some ⟨g, 0, none⟩) (pas (cntN z n) 15) (pas (cntN z n) 15)) w
 have c16 := hrow.cell (i := 16) (by omega)
 rw [if_neg (by omega)] at c16
 have hT := pas_all z n hz
 clear hrow
 unfold setV
 generalize pas (cntN z n) 15 = T at c16 hT ⊢
 go_enter Tryz.func139, Tryz.ntmps139
 go_wp2
 go_ret
 exact ⟨ret_bool (by rw [Bool.eq_iff_iff, beq_iff_eq, decide_eq_true_iff]; omega), _, rfl⟩
set_option maxHeartbeats 400000 in
theorem length_any (B gx y : Nat) (s : ByteArray) (σ : St) (vt : Value) (fx : Ex) (w : World) (h : Rd B w gx s σ vt fx) (hs : s.size ≤ 140737488400000) (hp : σ.pos ≤ 8 * s.size) (hy : σ.why = 0) (hy1 : 257 ≤ y) (hy2 : y ≤ 285) :
 Calls Tryz.prog 140 #[.pointer (some ⟨gx, 0, none⟩), .int .i64 (y : Int)] w fun e w' => e = endOf (numF s (pairM y) σ).2.why (.int .i64 ((pairN y + (numF s (pairM y) σ).1 : Nat) : Int)) ∧ Rd B w' gx s (numF s (pairM y) σ).2 vt fx ∧ Kp w w' gx vt := by
 by_cases h285 : y = 285
 ·
  have e1 : ((y : Int) == 285) = true := by rw [beq_iff_eq]; omega
  have HA : Hid (pairN y = 258) := by show _ = _; unfold pairN; rw [if_pos h285]
  have HB : Hid (pairM y = 0) := by show _ = _; unfold pairM; rw [if_pos h285]
  clear h285
  go_enter Tryz.func140, Tryz.ntmps140
  go_wp2
  go_ret
  rw [HA.out, HB.out]
  exact ⟨by simp only [numF]; rw [endOf_ok hy]; rfl, h, Kp.refl _ _ _⟩
 ·
  have e1 : ((y : Int) == 285) = false := by rw [beq_eq_false_iff_ne]; omega
  obtain ⟨z, hz⟩ : ∃ z, z = y - 257 := ⟨_, rfl⟩
  have hzI : (y : Int) - 257 = (z : Int) := by omega
  have hzb : z < 28 := by omega
  obtain ⟨t1, t2⟩ := tellL_eq z hzb
  have HA : Hid (pairN y = 3 + tellL z) := by show _ = _; unfold pairN; rw [if_neg h285, ← hz, t1]
  have HB : Hid (pairM y = addL z) := by show _ = _; unfold pairM; rw [if_neg h285, ← hz, t2]
  have hbl := pairN_le y hy2
  have hml := pairM_le y hy1 hy2
  rw [HA.out] at hbl
  rw [HB.out] at hml
  clear hz h285 t1 t2
  rw [HA.out, HB.out]
  have HM : Hid (∀ w, _) := fun w => measureL_any z hzb w
  clear HA HB
  generalize addL z = M at hml HM ⊢
  generalize tellL z = T at hbl HM ⊢
  obtain ⟨goal, hgoal⟩ : ∃ goal, goal = numF s M σ := ⟨_, rfl⟩
  rw [← hgoal]
  have HG : Hid (_) := hgoal
  clear hgoal
  go_enter Tryz.func140, Tryz.ntmps140
  go_wp2_with fail
  refine (HM.out _).mono ?_
  rintro e w1 ⟨rfl, rfl⟩
  have nb := numF_lt s M σ
  have nb8 : 2 ^ M ≤ 2 ^ 8 := Nat.pow_le_pow_right (by omega) (by omega)
  have h28 : (2 : Nat) ^ 8 = 256 := rfl
  have nb' : (numF s M σ).1 < 256 := by omega
  clear nb nb8 h28
  go_wp2_with fail
  refine (gnumber_any B gx M s σ vt fx _ h hs hp hy (by omega)).mono ?_
  rintro e w2 ⟨he, h2, k2⟩
  generalize numF s M σ = q at he h2 nb' HG
  obtain ⟨a, σ2⟩ := q
  simp only at he h2 nb'
  by_cases hyq : σ2.why = 0
  ·
   rw [endOf_ok hyq] at he; subst he
   go_wp2
   go_ret
   rw [HG.out, endOf_ok hyq]
   exact ⟨ret_int (by simp), h2, k2⟩
  ·
   rw [endOf_bad hyq] at he; subst he
   go_wp2
   rw [HG.out, endOf_bad hyq]
   exact ⟨rfl, rfl, h2, k2⟩
/-- A distance by its symbol. -/
def distP (s : ByteArray) (k : Int × St) : Nat × St :=
 if (distSt k).why ≠ 0 then (0, distSt k) else (baseN 1 4 2 k.1.toNat + (numF s (moreN 4 2 k.1.toNat) k.2).1, (numF s (moreN 4 2 k.1.toNat) k.2).2)
theorem pairDist_eq (s : ByteArray) (n : Nat) (k : Int × St) : pairDist s n k = pairEnd n (distP s k).1 (distP s k).2 := by
 unfold pairDist distP
 by_cases h : (distSt k).why ≠ 0
 ·
  rw [if_pos h, if_pos h]
  show _ = pairEnd n 0 (distSt k)
  unfold pairEnd
  rw [if_pos h]
 · rw [if_neg h, if_neg h]
theorem distP_bad {s : ByteArray} {k : Int × St} (h : k.2.why ≠ 0) : distP s k = (0, k.2) := by
 have e : distSt k = k.2 := by unfold distSt; rw [if_neg (fun c => h c.1)]
 unfold distP
 rw [e, if_pos h]
theorem distP_wrong {s : ByteArray} {k : Int × St} (h : k.2.why = 0) (h2 : 29 < k.1) : distP s k = (0, { k.2 with why := 1 }) := by
 have e : distSt k = { k.2 with why := 1 } := by unfold distSt; rw [if_pos ⟨h, h2⟩]; unfold stopF; rw [if_pos h]
 unfold distP
 rw [e, if_pos (by show (1 : Nat) ≠ 0; omega)]
theorem distP_ok {s : ByteArray} {k : Nat} {σ : St} (h : σ.why = 0) (h2 : k < 30) : distP s ((k : Int), σ) = (1 + tellD k + (numF s (addD k) σ).1, (numF s (addD k) σ).2) := by
 have e : distSt ((k : Int), σ) = σ := by unfold distSt; rw [if_neg (by show ¬ (_ ∧ (29 : Int) < (k : Int)); omega)]
 obtain ⟨t1, t2⟩ := tellD_eq k h2
 unfold distP
 rw [e, if_neg (by omega), t1, t2]
 rfl
theorem tellD_le {k : Nat} (h : k < 30) : tellD k ≤ 100000 ∧ addD k ≤ 13 := by
 have : ∀ k, k < 30 → tellD k ≤ 100000 ∧ addD k ≤ 13 := by decide
 exact this k h
set_option maxHeartbeats 1000000 in
theorem distance_any (B gx g n : Nat) (s : ByteArray) (σ : St) (vt : Value) (fx : Ex) (z : Nat → Int) (sy : Nat → Nat) (w : World) (h : Rd B w gx s σ vt fx) (hs : s.size ≤ 140737488400000) (hf : Fit s σ) (hy : σ.why = 0)
 (hset : SetIn w z n g sy) (hgx : g ≠ gx) (hvg : vt.ownBlock ≠ some g) :
 Calls Tryz.prog 141 #[.pointer (some ⟨gx, 0, none⟩), setV z n g] w fun e w' => e = endOf (distP s (symF s (codeT z n) n σ)).2.why (.int .i64 ((distP s (symF s (codeT z n) n σ)).1 : Int)) ∧ Rd B w' gx s (distP s (symF s (codeT z n) n σ)).2 vt fx ∧ Kp w w' gx vt := by
 have hnew : (w.alloc (.cells (setA (cntN z n) (.slice (some ⟨g, 0, none⟩) (pas (cntN z n) 15) (pas (cntN z n) 15))) 185)).heap[w.heap.size]? = _ := heap_alloc_last w (.cells (setA (cntN z n) (.slice (some ⟨g, 0, none⟩) (pas (cntN z n) 15) (pas (cntN z n) 15))) 185)
 have hd := h.alloc (.cells (setA (cntN z n) (.slice (some ⟨g, 0, none⟩) (pas (cntN z n) 15) (pas (cntN z n) 15))) 185)
 have hK1 : Kp w (w.alloc (.cells (setA (cntN z n) (.slice (some ⟨g, 0, none⟩) (pas (cntN z n) 15) (pas (cntN z n) 15))) 185)) gx vt := Kp.alloc w _ gx vt
 have hset1 := hset.kp hK1 hgx hvg
 have hfst := symF_fst (c := codeT z n) (n := n) (codeT_size hset.tidy) σ (s := s)
 have f3 : Fit s (symF s (codeT z n) n σ).2 := hf.symF
 obtain ⟨goal, hgoal⟩ : ∃ goal, goal = distP s (symF s (codeT z n) n σ) := ⟨_, rfl⟩
 rw [← hgoal]
 have HG : Hid (_) := hgoal
 clear hgoal
 unfold setV
 go_enter Tryz.func141, Tryz.ntmps141
 go_wp2_with (first | (refine wpList_load_row rfl 185 (.tmp 3) rfl w.heap.size rfl 185 _ (0, 0) _ hnew Tryz.underlying185 rfl Tryz.size185 ?_) | fail)
 refine (gsymbol_any B gx g n s σ vt fx z sy _ hd hs hf hy hset1 hgx hvg).mono ?_
 rintro e w2 ⟨he, h2, k2⟩
 have K2 := hK1.trans k2
 clear hnew hd hK1 hset1 k2 h hf hy hset
 generalize symF s (codeT z n) n σ = q at he h2 hfst f3 HG
 obtain ⟨k, σ2⟩ := q
 simp only at he h2 hfst f3
 by_cases hy2 : σ2.why = 0
 ·
  rw [endOf_ok hy2] at he; subst he
  obtain ⟨k', hk', rfl⟩ := hfst hy2
  by_cases h29 : 29 < k'
  ·
   have HD : Hid (_) := distP_wrong (s := s) (k := ((k' : Int), σ2)) hy2 (by show (29 : Int) < (k' : Int); omega)
   clear hfst
   go_wp2_with fail
   refine (wrong_any _).mono ?_
   rintro e w4 ⟨rfl, rfl⟩
   rw [endOf_bad (by omega)]
   go_wp2
   rw [HG.out, HD.out]
   exact ⟨rfl, rfl, h2.congr rfl rfl, K2⟩
  ·
   have HD : Hid (_) := distP_ok (s := s) (k := k') (σ := σ2) hy2 (by omega)
   obtain ⟨ht1, ht2⟩ := tellD_le (k := k') (by omega)
   clear hfst
   go_wp2_with fail
   refine (measureD_any k' (by omega) _).mono ?_
   rintro e w4 ⟨rfl, rfl⟩
   generalize addD k' = M at ht2 HD ⊢
   generalize tellD k' = T at ht1 HD ⊢
   have nb := numF_lt s M σ2
   have nb8 : 2 ^ M ≤ 2 ^ 13 := Nat.pow_le_pow_right (by omega) (by omega)
   have h28 : (2 : Nat) ^ 13 = 8192 := rfl
   have nb' : (numF s M σ2).1 < 8192 := by omega
   clear nb nb8 h28
   go_wp2_with fail
   refine (gnumber_any B gx M s σ2 vt fx _ h2 hs f3.pos hy2 (by omega)).mono ?_
   rintro e w5 ⟨he, h5, k5⟩
   have K5 := K2.trans k5
   clear h2 K2 k5
   generalize numF s M σ2 = q at he h5 nb' HD
   obtain ⟨a, σ5⟩ := q
   simp only at he h5 nb' HD
   by_cases hy5 : σ5.why = 0
   ·
    rw [endOf_ok hy5] at he; subst he
    go_wp2
    go_ret
    rw [HG.out, HD.out, endOf_ok hy5]
    exact ⟨ret_int (by simp), h5, K5⟩
   ·
    rw [endOf_bad hy5] at he; subst he
    go_wp2
    rw [HG.out, HD.out, endOf_bad hy5]
    exact ⟨rfl, rfl, h5, K5⟩
 ·
  rw [endOf_bad hy2] at he; subst he
  have HD : Hid (_) := distP_bad (s := s) (k := (k, σ2)) hy2
  clear hfst
  go_wp2
  rw [HG.out, HD.out, endOf_bad hy2]
  exact ⟨rfl, rfl, h2, K2⟩
end Go.Proofs.YtecddphahiadlaaGreatDoor
