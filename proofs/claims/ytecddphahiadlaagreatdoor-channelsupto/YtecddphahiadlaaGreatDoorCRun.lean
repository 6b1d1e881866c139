import Derived.Test.YtecddphahiadlaaGreatDoorCRunF
import Derived.Test.YtecddphahiadlaaGreatDoorCLens
import Derived.Deep.CutBlock
import Derived.Deep.DeepCutAuto
import Derived.Test.YtecddphahiadlaaGreatDoorCSyms
/- The document's own: the codes of kind 2. -/
namespace Go.Proofs.YtecddphahiadlaaGreatDoor
open Go.RowKit
def OwnPost (B : Nat) (w : World) (gx : Nat) (s : ByteArray) (vt : Value) (h : Head) (p : List Int × St) (e : Ending) (w' : World) : Prop :=
 ∃ v1 v2, e = .returned (.tuple #[v1, v2]) ∧ Str B w' gx s p.2 vt ∧ Kp w w' gx vt ∧ (p.2.why ≠ 0 → v1 = .slice none 0 0 ∧ v2 = .slice none 0 0) ∧
  (p.2.why = 0 → ∃ gl gd, v1 = .slice (some ⟨gl, 0, none⟩) (h.a + 257) (h.a + 257) ∧ v2 = .slice (some ⟨gd, 0, none⟩) (h.b + 1) (h.b + 1) ∧ w.heap.size ≤ gl ∧ w.heap.size ≤ gd ∧
   w'.rowIs gl 9 (h.a + 257) (fun i => .string (codeT (lenZ p.1 0) (h.a + 257) i)) ∧ w'.rowIs gd 9 (h.b + 1) (fun i => .string (codeT (lenZ p.1 (h.a + 257)) (h.b + 1) i)))
theorem lensF_rng {s : ByteArray} {n many : Nat} {σ : St} (h : (lensF s n many σ).2.why = 0) : (∀ y ∈ (lensF s n many σ).1, 0 ≤ y ∧ y ≤ 15) ∧ (lensF s n many σ).1.length = n := by
 have hl := headGo_lt s many 0 (fun _ => 0) σ (fun _ => by omega)
 unfold lensF at h ⊢
 generalize headGo s many 0 (fun _ => 0) σ = a at h hl ⊢
 unfold lensTail at h ⊢
 by_cases c1 : a.2.why ≠ 0
 · rw [if_pos c1] at h; exact absurd h c1
 ·
  rw [if_neg c1] at h ⊢
  by_cases c2 : ks0 (headZ a.1) 19 ≠ 32768
  · rw [if_pos c2] at h; exact absurd h (stopF_why (by omega))
  ·
   rw [if_neg c2] at h ⊢
   exact lenGo_rng (fun i _ => codeT_most _ _ _ (by have := hl i; unfold headZ; omega)) (n + 1) [] _ (by simp) (by simp) (by simp) h
theorem lenZ_rng {L : List Int} (h : ∀ y ∈ L, 0 ≤ y ∧ y ≤ 15) (off i : Nat) : 0 ≤ lenZ L off i ∧ lenZ L off i ≤ 15 := by
 unfold lenZ
 rw [List.getD_eq_getElem?_getD]
 cases hc : L[off + i]? with
 | none => simp
 | some x => exact h x (List.mem_of_getElem? hc)
def Sm (a b : World) : Prop := b = a
structure OC (B : Nat) (w : World) (gx : Nat) (s : ByteArray) (vt : Value) (σ : St) (wx : World) : Prop where
 str : Str B wx gx s σ vt
 kp : Kp w wx gx vt
 fit : Fit s σ
set_option maxRecDepth 4000 in
set_option maxHeartbeats 1000000 in
theorem own_any (B gx : Nat) (s : ByteArray) (σ : St) (vt : Value) (w : World) (h : Str B w gx s σ vt) (hB : B ≤ w.heap.size) (hs : s.size ≤ 140737488400000) (hf : Fit s σ) :
 Calls Tryz.prog 89 #[.pointer (some ⟨gx, 0, none⟩)] w fun e w' => OwnPost B w gx s vt (headF s σ) (ownF s σ) e w' := by
 have hnb := numF_lt s 5 σ
 have h25 : (2 : Nat) ^ 5 = 32 := rfl
 have h24 : (2 : Nat) ^ 4 = 16 := rfl
 rw [h25] at hnb
 go_enter Tryz.func89, Tryz.ntmps89
 go_wp2_with fail
 refine (number_any B gx 5 s σ vt _ h hs hf.pos (by omega)).mono ?_
 rintro e w1 ⟨rfl, h1, k1⟩
 have HP : Hid (headF s σ = ⟨(numF s 5 σ).1, (numF s 5 (stop29 (numF s 5 σ))).1, (numF s 4 (stop29 (numF s 5 (stop29 (numF s 5 σ))))).1, (numF s 4 (stop29 (numF s 5 (stop29 (numF s 5 σ))))).2⟩) := rfl
 have f1 := hf.num 5
 generalize numF s 5 σ = pa at h1 hnb HP f1 ⊢
 obtain ⟨a, σ1⟩ := pa
 simp only at h1 hnb f1 ⊢
 have C1 : OC B w gx s vt σ1 w1 := ⟨h1, k1, f1⟩
 clear h1 k1 f1 hf h25
 go_upto_region 2 with fail
 go_cut [23] (fun v wx => v = .bool (decide (σ1.why = 0 ∧ 29 < a)) ∧ OC B w gx s vt σ1 wx)
 case first =>
  have d3 := C1.str.c3
  by_cases hy : σ1.why = 0
  ·
   have e3 : ((σ1.why : Int) == 0) = true := by rw [beq_iff_eq]; omega
   by_cases h29 : 29 < a
   ·
    have HB2 : Hid (decide (σ1.why = 0 ∧ 29 < a) = true) := decide_eq_true ⟨hy, h29⟩
    have dA : decide ((29 : Int) < (a : Int)) = true := by rw [decide_eq_true_iff]; omega
    clear hy
    go_wp2_with fail
    go_meet
    exact ⟨by rw [HB2.out], C1⟩
   ·
    have HB2 : Hid (decide (σ1.why = 0 ∧ 29 < a) = false) := decide_eq_false (fun h => h29 h.2)
    have dA : decide ((29 : Int) < (a : Int)) = false := by rw [decide_eq_false_iff_not]; omega
    clear hy
    go_wp2_with fail
    go_meet
    exact ⟨by rw [HB2.out], C1⟩
  ·
   have e3 : ((σ1.why : Int) == 0) = false := by rw [beq_eq_false_iff_ne]; omega
   have HB2 : Hid (decide (σ1.why = 0 ∧ 29 < a) = false) := decide_eq_false (fun h => hy h.1)
   clear hy
   go_wp2_with fail
   go_meet
   exact ⟨by rw [HB2.out], C1⟩
 case rest =>
  obtain ⟨rfl, C1x⟩ := hcut
  clear C1
  go_upto_if 23 with fail
  go_cut [4] (fun v wx => v = .int .i64 (a : Nat) ∧ OC B w gx s vt (stop29 (a, σ1)) wx)
  case first =>
   by_cases hb : σ1.why = 0 ∧ 29 < a
   ·
    have HB2 : decide (σ1.why = 0 ∧ 29 < a) = true := decide_eq_true hb
    have HS2 : Hid (stop29 (a, σ1) = stopF σ1 1) := by show _ = _; unfold stop29; rw [if_pos hb]
    rw [HB2]
    clear hb HB2
    go_wp2_with fail
    refine (stops_any B gx 1 s σ1 vt _ C1x.str).mono ?_
    rintro e w5 ⟨rfl, h5, k5⟩
    have C5 : OC B w gx s vt (stop29 (a, σ1)) w5 := ⟨by rw [HS2.out]; exact h5, C1x.kp.trans k5, C1x.fit.stop29⟩
    clear h5 k5 HS2
    go_wp2_with fail
    go_meet
    exact ⟨rfl, C5⟩
   ·
    have HB2 : decide (σ1.why = 0 ∧ 29 < a) = false := decide_eq_false hb
    have HS2 : Hid (stop29 (a, σ1) = σ1) := by show _ = _; unfold stop29; rw [if_neg hb]
    rw [HB2]
    clear hb HB2
    go_wp2_with fail
    go_meet
    exact ⟨rfl, by rw [HS2.out]; exact C1x⟩
  case rest =>
   obtain ⟨rfl, C1y⟩ := hcut
   clear C1x
   have hnb2 := numF_lt s 5 (stop29 (a, σ1))
   have h25 : (2 : Nat) ^ 5 = 32 := rfl
   rw [h25] at hnb2
   clear h25
   have HA2 : Hid ((numF s 5 (stop29 (a, σ1))).2.why = 0 → (stop29 (a, σ1)).why = 0) := numF_alive 5
   go_wp2_with fail
   refine (number_any B gx 5 s _ vt _ C1y.str hs C1y.fit.pos (by omega)).mono ?_
   rintro e w2 ⟨rfl, h2, k2⟩
   have f2 := C1y.fit.num 5
   have C2 : OC B w gx s vt (numF s 5 (stop29 (a, σ1))).2 w2 := ⟨h2, C1y.kp.trans k2, f2⟩
   clear h2 k2 f2 C1y
   generalize numF s 5 (stop29 (a, σ1)) = pb at C2 hnb2 HP HA2 ⊢
   obtain ⟨b, σ2⟩ := pb
   simp only at C2 hnb2 HP HA2 ⊢
   go_upto_region 5 with fail
   go_cut [36] (fun v wx => v = .bool (decide (σ2.why = 0 ∧ 29 < b)) ∧ OC B w gx s vt σ2 wx)
   case first =>
    have d3 := C2.str.c3
    by_cases hy : σ2.why = 0
    ·
     have e3 : ((σ2.why : Int) == 0) = true := by rw [beq_iff_eq]; omega
     by_cases h29 : 29 < b
     ·
      have HB2 : Hid (decide (σ2.why = 0 ∧ 29 < b) = true) := decide_eq_true ⟨hy, h29⟩
      have dA : decide ((29 : Int) < (b : Int)) = true := by rw [decide_eq_true_iff]; omega
      clear hy
      go_wp2_with fail
      go_meet
      exact ⟨by rw [HB2.out], C2⟩
     ·
      have HB2 : Hid (decide (σ2.why = 0 ∧ 29 < b) = false) := decide_eq_false (fun h => h29 h.2)
      have dA : decide ((29 : Int) < (b : Int)) = false := by rw [decide_eq_false_iff_not]; omega
      clear hy
      go_wp2_with fail
      go_meet
      exact ⟨by rw [HB2.out], C2⟩
    ·
     have e3 : ((σ2.why : Int) == 0) = false := by rw [beq_eq_false_iff_ne]; omega
     have HB2 : Hid (decide (σ2.why = 0 ∧ 29 < b) = false) := decide_eq_false (fun h => hy h.1)
     clear hy
     go_wp2_with fail
     go_meet
     exact ⟨by rw [HB2.out], C2⟩
   case rest =>
    obtain ⟨rfl, C2x⟩ := hcut
    clear C2
    go_upto_if 36 with fail
    go_cut [5] (fun v wx => v = .int .i64 (b : Nat) ∧ OC B w gx s vt (stop29 (b, σ2)) wx)
    case first =>
     by_cases hb : σ2.why = 0 ∧ 29 < b
     ·
      have HB2 : decide (σ2.why = 0 ∧ 29 < b) = true := decide_eq_true hb
      have HS2 : Hid (stop29 (b, σ2) = stopF σ2 1) := by show _ = _; unfold stop29; rw [if_pos hb]
      rw [HB2]
      clear hb HB2
      go_wp2_with fail
      refine (stops_any B gx 1 s σ2 vt _ C2x.str).mono ?_
      rintro e w5 ⟨rfl, h5, k5⟩
      have C5 : OC B w gx s vt (stop29 (b, σ2)) w5 := ⟨by rw [HS2.out]; exact h5, C2x.kp.trans k5, C2x.fit.stop29⟩
      clear h5 k5 HS2
      go_wp2_with fail
      go_meet
      exact ⟨rfl, C5⟩
     ·
      have HB2 : decide (σ2.why = 0 ∧ 29 < b) = false := decide_eq_false hb
      have HS2 : Hid (stop29 (b, σ2) = σ2) := by show _ = _; unfold stop29; rw [if_neg hb]
      rw [HB2]
      clear hb HB2
      go_wp2_with fail
      go_meet
      exact ⟨rfl, by rw [HS2.out]; exact C2x⟩
    case rest =>
     obtain ⟨rfl, C2y⟩ := hcut
     clear C2x
     have hnb3 := numF_lt s 4 (stop29 (b, σ2))
     have h24 : (2 : Nat) ^ 4 = 16 := rfl
     rw [h24] at hnb3
     clear h24
     have HA3 : Hid ((numF s 4 (stop29 (b, σ2))).2.why = 0 → (stop29 (b, σ2)).why = 0) := numF_alive 4
     go_wp2_with fail
     refine (number_any B gx 4 s _ vt _ C2y.str hs C2y.fit.pos (by omega)).mono ?_
     rintro e w3 ⟨rfl, h3, k3⟩
     have f3 := C2y.fit.num 4
     have C3 : OC B w gx s vt (numF s 4 (stop29 (b, σ2))).2 w3 := ⟨h3, C2y.kp.trans k3, f3⟩
     clear h3 k3 f3 C2y
     generalize numF s 4 (stop29 (b, σ2)) = pc at C3 hnb3 HP HA3 ⊢
     obtain ⟨cc, σ3⟩ := pc
     simp only at C3 hnb3 HP HA3 ⊢
     have d3 := C3.str.c3
     by_cases hy : σ3.why = 0
     ·
      have e3 : ((σ3.why : Int) != 0) = false := by rw [bne_eq_false_iff_eq]; omega
      obtain ⟨hb29, hb0⟩ := stop29_le (HA3.out hy)
      obtain ⟨ha29, _⟩ := stop29_le (HA2.out (by rw [hb0] at HA3; exact HA3.out hy))
      simp only at hb29 ha29
      obtain ⟨n, hn⟩ : ∃ n, n = a + b + 258 := ⟨_, rfl⟩
      obtain ⟨m, hm⟩ : ∃ m, m = cc + 4 := ⟨_, rfl⟩
      have hnI : (a : Int) + (b : Int) + 258 = (n : Int) := by omega
      have hmI : (cc : Int) + 4 = (m : Int) := by omega
      have HO : Hid (ownF s σ = ((lensF s n m σ3).1, ownEnd (lensF s n m σ3) a b)) := by
       show _ = _
       unfold ownF
       rw [HP.out, if_neg (by show ¬ ¬ σ3.why = 0; omega), hn, hm]
      have hrg := lensF_rng (s := s) (n := n) (many := m) (σ := σ3)
      have hB3 : B ≤ w3.heap.size := Nat.le_trans hB C3.kp.size
      have HAB : Hid (n = a + b + 258) := hn
      have hn4 : n ≤ 400 := by omega
      have hn1 : 258 ≤ n := by omega
      have hm19 : m ≤ 19 := by omega
      clear hb0 HA3 HA2 hy hn hm
      go_wp2_with fail
      refine (lengths_any B gx n m s σ3 vt _ C3.str hB3 hs C3.fit (by omega) hn4 hm19).mono ?_
      rintro e w4 ⟨v, rfl, h4, k4, hgood⟩
      have K4 := C3.kp.trans k4
      have hs4 := Nat.le_trans C3.kp.size k4.size
      have hs3 := C3.kp.size
      clear C3 k4 d3 e3 hnI hmI
      generalize lensF s n m σ3 = p at h4 hgood HO hrg ⊢
      obtain ⟨L, σ4⟩ := p
      simp only at h4 hgood HO hrg
      have d3 := h4.c3
      by_cases hy : σ4.why = 0
      ·
       have e3 : ((σ4.why : Int) != 0) = false := by rw [bne_eq_false_iff_eq]; omega
       obtain ⟨g, cp, rfl, hg, hcp, hI⟩ := hgood hy
       obtain ⟨hrn, hLn⟩ := hrg hy
       have HRN : Hid (∀ y ∈ L, 0 ≤ y ∧ y ≤ 15) := hrn
       have HLN : Hid (L.length = n) := hLn
       have HI : Hid (IntsAt w4 g 0 n (fun i => L.getD i 0)) := hI
       have HY : Hid (σ4.why = 0) := hy
       have i1 : (a : Int) + 257 ≤ (cp : Int) := by have := HAB.out; omega
       have i2 : (a : Int) + 257 ≤ (n : Int) := by have := HAB.out; omega
       obtain ⟨na, hna⟩ : ∃ na, na = a + 257 := ⟨_, rfl⟩
       have hnaI : (a : Int) + 257 = (na : Int) := by omega
       rw [hnaI] at i1 i2
       have i3 : na < cp := by have := HAB.out; omega
       have i4 : ¬ cp = na := by omega
       have HNA : Hid (na = a + 257) := hna
       clear hgood hrg hrn hLn hI hy hna
       go_wp2_with fail
       obtain ⟨nb, hnb9⟩ : ∃ nb, nb = b + 1 := ⟨_, rfl⟩
       have hnn : n - na = nb := by have := HAB.out; have := HNA.out; omega
       have HNB : Hid (nb = b + 1) := hnb9
       have hna3 : na ≤ 286 := by have := HNA.out; omega
       have hna2 : 257 ≤ na := by have := HNA.out; omega
       have hnb8 : nb ≤ 30 := by omega
       have IS : IntsAt w4 g 0 na (lenZ L 0) := ⟨fun i hi => by have e := HI.out.cell i (by omega); unfold lenZ; rw [Nat.zero_add] at e ⊢; exact e, HI.out.lt⟩
       have ID : IntsAt w4 g na nb (lenZ L na) := ⟨fun i hi => by have e := HI.out.cell (na + i) (by omega); rw [Nat.zero_add] at e; exact e, HI.out.lt⟩
       have c256 := HI.out.cell 256 (by omega)
       rw [Nat.zero_add] at c256
       have i5 : (256 : Int) < (na : Int) := by omega
       have b1 := ks0_le (lenZ L 0) na
       have b2 := ks0_le (lenZ L na) nb
       have b3 := usedN_le (lenZ L na) nb
       have HBAD : Hid (badL L a b = (!(ks0 (lenZ L 0) na == 32768) || L.getD 256 0 == 0 || (!(ks0 (lenZ L na) nb == 32768) && decide (0 < usedN (lenZ L na) nb) && !(usedN (lenZ L na) nb == 1 && ks0 (lenZ L na) nb == 16384)))) := by
        show _ = _
        unfold badL
        rw [← HNA.out, ← HNB.out]
       rw [hnn]
       clear hnb9 hnn d3 e3
       refine (rleft_any g 0 na cp (lenZ L 0) _ IS (by omega) (fun i _ => lenZ_rng HRN.out 0 i)).mono ?_
       rintro e w4 ⟨rfl, rfl⟩
       go_wp2_with fail
       refine (rleft_any g na nb (cp - na) (lenZ L na) _ ID (by omega) (fun i _ => lenZ_rng HRN.out na i)).mono ?_
       rintro e w4 ⟨rfl, rfl⟩
       go_wp2_with fail
       refine (used_any g na nb (cp - na) (lenZ L na) _ ID (by omega)).mono ?_
       rintro e w4 ⟨rfl, rfl⟩
       have HKS : Hid (badL L a b = false → ks0 (lenZ L 0) na = 32768 ∧ ks0 (lenZ L na) nb ≤ 32768) := fun h => by
        have e := badL_not h
        rw [← HNA.out, ← HNB.out] at e
        exact ⟨e.1, e.2.2⟩
       generalize hMM : ks0 (lenZ L 0) na = M at b1 HBAD HKS ⊢
       generalize hNN : ks0 (lenZ L na) nb = N at b2 HBAD HKS ⊢
       have HMM : Hid (ks0 (lenZ L 0) na = M) := hMM
       have HNN : Hid (ks0 (lenZ L na) nb = N) := hNN
       clear hMM hNN
       generalize usedN (lenZ L na) nb = U at b3 HBAD ⊢
       generalize hX : L.getD 256 0 = X at c256 HBAD
       clear hX
       go_upto_region 18 with fail
       go_cut [97] (fun v wx => v = .bool (badL L a b) ∧ Sm w4 wx)
       case first =>
        by_cases c1 : M = 32768
        ·
         have e1 : ((32768 : Int) - (M : Int) != 0) = false := by rw [bne_eq_false_iff_eq]; omega
         by_cases c2 : X = 0
         ·
          have e2 : (X == 0) = true := by rw [beq_iff_eq]; exact c2
          have HQ : Hid (badL L a b = true) := by show _ = _; rw [HBAD.out]; simp [c1, c2]
          clear HBAD HKS
          go_wp2_with fail
          go_meet
          exact ⟨by rw [HQ.out], rfl⟩
         ·
          have e2 : (X == 0) = false := by rw [beq_eq_false_iff_ne]; exact c2
          by_cases c3 : N = 32768
          ·
           have e4 : ((32768 : Int) - (N : Int) != 0) = false := by rw [bne_eq_false_iff_eq]; omega
           have HQ : Hid (badL L a b = false) := by show _ = _; rw [HBAD.out]; simp [c1, c2, c3]
           clear HBAD HKS
           go_wp2_with fail
           go_meet
           exact ⟨by rw [HQ.out], rfl⟩
          ·
           have e4 : ((32768 : Int) - (N : Int) != 0) = true := by rw [bne_iff_ne]; omega
           by_cases c4 : 0 < U
           ·
            have e5 : decide ((0 : Int) < (U : Int)) = true := by rw [decide_eq_true_iff]; omega
            by_cases c5 : U = 1
            ·
             have e6 : ((U : Int) == 1) = true := by rw [beq_iff_eq]; omega
             by_cases c6 : N = 16384
             ·
              have e7 : ((32768 : Int) - (N : Int) == 16384) = true := by rw [beq_iff_eq]; omega
              have HQ : Hid (badL L a b = false) := by show _ = _; rw [HBAD.out]; simp [c1, c2, c5, c6]
              clear HBAD HKS
              go_wp2_with fail
              go_meet
              exact ⟨by rw [HQ.out], rfl⟩
             ·
              have e7 : ((32768 : Int) - (N : Int) == 16384) = false := by rw [beq_eq_false_iff_ne]; omega
              have HQ : Hid (badL L a b = true) := by show _ = _; rw [HBAD.out]; simp [c1, c2, c3, c5, c6]
              clear HBAD HKS
              go_wp2_with fail
              go_meet
              exact ⟨by rw [HQ.out], rfl⟩
            ·
             have e6 : ((U : Int) == 1) = false := by rw [beq_eq_false_iff_ne]; omega
             have HQ : Hid (badL L a b = true) := by show _ = _; rw [HBAD.out]; simp [c1, c2, c3, c4, c5]
             clear HBAD HKS
             go_wp2_with fail
             go_meet
             exact ⟨by rw [HQ.out], rfl⟩
           ·
            have e5 : decide ((0 : Int) < (U : Int)) = false := by rw [decide_eq_false_iff_not]; omega
            have HQ : Hid (badL L a b = false) := by show _ = _; rw [HBAD.out]; simp [c1, c2, c4]
            clear HBAD HKS
            go_wp2_with fail
            go_meet
            exact ⟨by rw [HQ.out], rfl⟩
        ·
         have e1 : ((32768 : Int) - (M : Int) != 0) = true := by rw [bne_iff_ne]; omega
         have HQ : Hid (badL L a b = true) := by show _ = _; rw [HBAD.out]; simp [c1]
         clear HBAD HKS
         go_wp2_with fail
         go_meet
         exact ⟨by rw [HQ.out], rfl⟩
       case rest =>
        obtain ⟨rfl, hsm⟩ := hcut
        unfold Sm at hsm
        subst hsm
        cases hbad : badL L a b
        ·
         obtain ⟨q1, q2⟩ := HKS.out hbad
         have kr1 : kr (cntN (lenZ L 0) na) 15 ≤ 32768 := by rw [kr_ks0 _ _ (fun i _ => lenZ_rng HRN.out 0 i), HMM.out]; omega
         have kr2 : kr (cntN (lenZ L na) nb) 15 ≤ 32768 := by rw [kr_ks0 _ _ (fun i _ => lenZ_rng HRN.out na i), HNN.out]; omega
         have HOO : Hid (ownF s σ = (L, σ4)) := by
          show _ = _
          rw [HO.out]; unfold ownEnd; rw [if_neg (by rw [hbad]; simp)]
         clear q1 q2 hbad HKS HBAD
         go_wp2_with fail
         refine (rcodes_any g 0 na cp (lenZ L 0) _ IS (by omega) (fun i _ => lenZ_rng HRN.out 0 i) kr1).mono ?_
         rintro e w5 ⟨rfl, r5, b5⟩
         have ID5 := ID.later b5
         go_wp2_with fail
         refine (rcodes_any g na nb (cp - na) (lenZ L na) _ ID5 (by omega) (fun i _ => lenZ_rng HRN.out na i) kr2).mono ?_
         rintro e w6 ⟨rfl, r6, b6⟩
         have hz5 := b5.size
         have P : OwnPost B w gx s vt (headF s σ) (ownF s σ) (.returned (.tuple #[.slice (some ⟨wc.heap.size, 0, none⟩) na na, .slice (some ⟨w5.heap.size, 0, none⟩) nb nb])) w6 := by
          rw [HOO.out, HP.out]
          refine ⟨_, _, rfl, (h4.later b5).later b6, (K4.later b5).later b6, fun hz => absurd HY.out hz, fun _ => ⟨wc.heap.size, w5.heap.size, ?_, ?_, hs4, by omega, ?_, ?_⟩⟩
          · show Value.slice _ na na = .slice _ (a + 257) (a + 257); rw [← HNA.out]
          · show Value.slice _ nb nb = .slice _ (b + 1) (b + 1); rw [← HNB.out]
          · show World.rowIs _ _ _ (a + 257) _; rw [← HNA.out]; exact r5.of_block (b6.block _ r5.lt)
          · show World.rowIs _ _ _ (b + 1) _; rw [← HNB.out, ← HNA.out]; exact r6
         clear r5 r6 b5 b6 IS ID ID5 HOO HO HP h4 K4
         go_wp2
         go_ret2
         exact P
        ·
         have HOO : Hid (ownF s σ = (L, stopF σ4 1)) := by
          show _ = _
          rw [HO.out]; unfold ownEnd; rw [if_pos ⟨HY.out, hbad⟩]
         clear hbad HKS HBAD IS ID
         go_wp2_with fail
         refine (stops_any B gx 1 s σ4 vt _ h4).mono ?_
         rintro e w5 ⟨rfl, h5, k5⟩
         have P : OwnPost B w gx s vt (headF s σ) (ownF s σ) (.returned (.tuple #[.slice none 0 0, .slice none 0 0])) w5 := by
          rw [HOO.out]
          exact ⟨_, _, rfl, h5, K4.trans k5, fun _ => ⟨rfl, rfl⟩, fun hz => absurd hz (stopF_why (by omega))⟩
         clear h5 k5 HOO HO HP h4 K4
         go_wp2
         go_ret2
         exact P
      ·
       have e3 : ((σ4.why : Int) != 0) = true := by rw [bne_iff_ne]; omega
       have P : OwnPost B w gx s vt (headF s σ) (ownF s σ) (.returned (.tuple #[.slice none 0 0, .slice none 0 0])) w4 := by
        have e : ownF s σ = (L, σ4) := by rw [HO.out]; unfold ownEnd; rw [if_neg (fun h => hy h.1)]
        exact ⟨_, _, rfl, by rw [e]; exact h4, K4, fun _ => ⟨rfl, rfl⟩, fun hz => absurd (by rw [e] at hz; exact hz) hy⟩
       clear HP HO hy h4 K4 hgood hrg
       go_wp2
       go_ret2
       exact P
     ·
      have e3 : ((σ3.why : Int) != 0) = true := by rw [bne_iff_ne]; omega
      have P : OwnPost B w gx s vt (headF s σ) (ownF s σ) (.returned (.tuple #[.slice none 0 0, .slice none 0 0])) w3 := by
       have e : ownF s σ = ([], σ3) := by unfold ownF; rw [HP.out, if_pos hy]
       exact ⟨_, _, rfl, by rw [e]; exact C3.str, C3.kp, fun _ => ⟨rfl, rfl⟩, fun hz => absurd (by rw [e] at hz; exact hz) hy⟩
      clear HP HA3 HA2 hy C3
      go_wp2
      go_ret2
      exact P
/- The document's stream: its block when it begins and ends; a block of symbols without codes. -/
theorem Str.setFin {B : Nat} {w : World} {gx : Nat} {s : ByteArray} {σ : St} {vt : Value} (h : Str B w gx s σ vt) (b : Bool) : Str B (w.setCell ⟨gx, 4, none⟩ (.bool b)) gx s { σ with fin := b } vt := by
 refine ⟨h.le, (h.row.set 4 _).congr (fun i hi => ?_), own_of_block h.own (fun g hg => Below.heap_setCell _ _ _ _ (fun e => h.ne (by rw [hg, e]))), h.ne⟩
 by_cases e : i = 4
 · subst e; simp
 ·
  rw [if_neg e]
  by_cases e0 : i = 0
  · rw [if_pos e0, if_pos e0]
  ·
   rw [if_neg e0, if_neg e0]
   by_cases e1 : i = 1
   · rw [if_pos e1, if_pos e1]
   ·
    rw [if_neg e1, if_neg e1]
    by_cases e2 : i = 2
    · rw [if_pos e2, if_pos e2]
    ·
     rw [if_neg e2, if_neg e2]
     by_cases e3 : i = 3
     · rw [if_pos e3, if_pos e3]
     · omega
theorem Str.begin (w : World) (s : ByteArray) : Str w.heap.size (w.alloc (.cells #[.string s, .int .i64 0, .slice none 0 0, .int .i64 0, .bool false] 136)) w.heap.size s start (.slice none 0 0) := by
 refine ⟨Nat.le_refl _, ?_, World.ownsRow_nil _ _ _ _, by simp [Value.ownBlock]⟩
 refine World.rowIs_alloc w #[.string s, .int .i64 0, .slice none 0 0, .int .i64 0, .bool false] 136 _ (fun i hi => ?_)
 have hi' : i < 5 := hi
 match i, hi' with
 | 0, _ => rfl
 | 1, _ => rfl
 | 2, _ => rfl
 | 3, _ => rfl
 | 4, _ => rfl
 | i + 5, h => exact absurd h (by omega)
set_option maxRecDepth 4000 in
theorem coded_dead (B gx : Nat) (s : ByteArray) (σ : St) (vt : Value) (w : World) (h : Str B w gx s σ vt) (hy : σ.why ≠ 0) :
 Calls Tryz.prog 88 #[.pointer (some ⟨gx, 0, none⟩), .slice none 0 0, .slice none 0 0] w fun e w' => e = .returned (.tuple #[]) ∧ w' = w := by
 have d3 := h.c3
 have e3 : ((σ.why : Int) == 0) = false := by rw [beq_eq_false_iff_ne]; omega
 clear hy
 go_enter Tryz.func88, Tryz.ntmps88
 go_wp2_with fail
 go_loop [6, 7] (fun t i => t = .int .i64 0 ∧ i = .int .i64 0) (fun _ _ => 0)
 case atStart => exact ⟨rfl, rfl⟩
 case round =>
  obtain ⟨rfl, rfl⟩ := hrel
  go_wp2_with fail
  go_loop [8] (fun _ => True) (fun _ => 0)
  case atStart => exact trivial
  case round =>
   go_wp2
   go_end0
   exact ⟨rfl, rfl⟩
theorem runGo_end {s : ByteArray} {σ : St} (h : ¬ (σ.why = 0 ∧ σ.fin = false)) (f : Nat) : runGo s f σ = σ := by
 cases f with
 | zero => rfl
 | succ f => simp only [runGo]; rw [if_neg h]
/-- The state of the loop over the blocks. -/
structure RG (w1 wr : World) (gx : Nat) (s : ByteArray) (f : Nat) (σ : St) : Prop where
 fit : Fit s σ
 runs : Runs gx w1 wr gx s (.slice none 0 0) σ
 few : restN s σ ≤ f
 eq : runGo s f σ = runF s
theorem RG.fin {w1 wr : World} {gx : Nat} {s : ByteArray} {f : Nat} {σ : St} (h : RG w1 wr gx s f σ) (he : ¬ (σ.why = 0 ∧ σ.fin = false)) : Runs gx w1 wr gx s (.slice none 0 0) (runF s) := by
 rw [← h.eq, runGo_end he]; exact h.runs
theorem rg_last {w1 wr w2 : World} {gx : Nat} {s : ByteArray} {f : Nat} {σ : St} {vt : Value} (h : RG w1 wr gx s f σ) (hy : σ.why = 0) (hfi : σ.fin = false) (hkp : Kp w1 wr gx (.slice none 0 0)) (hfr : ∀ g, vt.ownBlock = some g → Value.ownBlock (.slice none 0 0) = some g ∨ w1.heap.size ≤ g)
 (h2 : Str gx w2 gx s (numF s 2 (bitF s σ).2).2 vt) (k2 : Kp wr w2 gx vt) (hd : (numF s 2 (bitF s σ).2).2.why ≠ 0) : Runs gx w1 w2 gx s (.slice none 0 0) (runF s) := by
 have hf : 1 ≤ f := by have := h.few; unfold restN at this; rw [if_pos hy] at this; omega
 obtain ⟨f', rfl⟩ : ∃ f', f = f' + 1 := ⟨f - 1, by omega⟩
 have e := h.eq
 have e2 : runStep s σ = (true, (numF s 2 (bitF s σ).2).2) := by unfold runStep; rw [if_pos hd]
 simp only [runGo] at e
 rw [if_pos ⟨hy, hfi⟩, e2, if_pos rfl] at e
 rw [← e]
 exact Runs.trans hkp hfr ⟨vt, h2, k2, fun _ hg => Or.inl hg⟩
theorem rg_next {w1 wr w2 w5 : World} {gx : Nat} {s : ByteArray} {f : Nat} {σ σ5 : St} {vt vt5 : Value} {b : Bool} (h : RG w1 wr gx s f σ) (hy : σ.why = 0) (hfi : σ.fin = false) (hkp : Kp w1 wr gx (.slice none 0 0)) (hfr : ∀ g, vt.ownBlock = some g → Value.ownBlock (.slice none 0 0) = some g ∨ w1.heap.size ≤ g)
 (k2 : Kp wr w2 gx vt) (hd : (numF s 2 (bitF s σ).2).2.why = 0) (h5e : σ5 = blockF s (numF s 2 (bitF s σ).2).1 (numF s 2 (bitF s σ).2).2)
 (h5 : Str gx w5 gx s σ5 vt5) (k5 : Kp w2 w5 gx vt) (f5 : ∀ g, vt5.ownBlock = some g → vt.ownBlock = some g ∨ w2.heap.size ≤ g) (hb : b = decide (σ5.why = 0 ∧ (bitF s σ).1 = 1)) :
 1 ≤ f ∧ RG w1 (w5.setCell ⟨gx, 4, none⟩ (.bool b)) gx s (f - 1) { σ5 with fin := b } := by
 have e2 : runStep s σ = (false, { σ5 with fin := b }) := by unfold runStep; rw [if_neg (by omega), h5e, hb, h5e]
 have hl := runStep_rest h.fit hy (by rw [e2])
 have hfw := h.few
 rw [e2] at hl
 obtain ⟨f', rfl⟩ : ∃ f', f = f' + 1 := ⟨f - 1, by omega⟩
 have e := h.eq
 have ft := runStep_fit (s := s) h.fit
 rw [e2] at ft
 simp only [runGo] at e
 rw [if_pos ⟨hy, hfi⟩, e2, if_neg (by simp)] at e
 refine ⟨by omega, ft, ?_, by simp only at hl; omega, e⟩
 exact Runs.trans hkp hfr (Runs.trans k2 (fun _ hg => Or.inl hg) ⟨vt5, h5.setFin b, k5.set 4 _, f5⟩)
/-- What Run gives. -/
def RunPost (w : World) (s : ByteArray) (e : Ending) (w' : World) : Prop :=
 ∃ vt, e = .returned (.pointer (some ⟨w.heap.size, 0, none⟩)) ∧ Str w.heap.size w' w.heap.size s (runF s) vt ∧ Below w.heap.size w w'
theorem run_post {w : World} {s : ByteArray} {o : Obj} {w' : World} (h : Runs w.heap.size (w.alloc o) w' w.heap.size s (.slice none 0 0) (runF s)) : RunPost w s (.returned (.pointer (some ⟨w.heap.size, 0, none⟩))) w' := by
 obtain ⟨vt, h1, k1, _⟩ := h
 refine ⟨vt, rfl, h1, k1.os, k1.tape, k1.output, ?_, fun b hb => ?_⟩
 · have := k1.size; simp at this; omega
 · exact (k1.block b (by simp; omega) (by omega) (by simp [Value.ownBlock])).trans (Below.heap_alloc w o b hb)
/- The document's Run: a stream, as far as it goes. -/
theorem headF_rng {s : ByteArray} {σ : St} (h : (headF s σ).st.why = 0) : (headF s σ).a ≤ 29 ∧ (headF s σ).b ≤ 29 := by
 unfold headF at h ⊢
 generalize numF s 5 σ = A at h ⊢
 have h2 := numF_alive (s := s) 5 (σ := stop29 A)
 generalize numF s 5 (stop29 A) = C at h h2 ⊢
 have h3 := numF_alive (s := s) 4 (σ := stop29 C)
 generalize numF s 4 (stop29 C) = D at h h3 ⊢
 have h4 := stop29_le (h3 h)
 have h5 := stop29_le (h2 (by rw [h4.2] at h3; exact h3 h))
 exact ⟨h5.1, h4.1⟩
theorem ownF_rng {s : ByteArray} {σ : St} (h : (ownF s σ).2.why = 0) : (∀ y ∈ (ownF s σ).1, 0 ≤ y ∧ y ≤ 15) ∧ (headF s σ).a ≤ 29 ∧ (headF s σ).b ≤ 29 := by
 have hh := headF_rng (s := s) (σ := σ)
 unfold ownF at h ⊢
 generalize headF s σ = hd at h hh ⊢
 by_cases c : hd.st.why ≠ 0
 · rw [if_pos c] at h; exact absurd h c
 ·
  rw [if_neg c] at h ⊢
  have h1 : (lensF s (hd.a + hd.b + 258) (hd.c + 4) hd.st).2.why = 0 := by
   have h' : (ownEnd (lensF s (hd.a + hd.b + 258) (hd.c + 4) hd.st) hd.a hd.b).why = 0 := h
   unfold ownEnd at h'
   split at h'
   · exact absurd h' (stopF_why (by omega))
   · exact h'
  exact ⟨(lensF_rng h1).1, hh (by omega)⟩
set_option maxRecDepth 4000 in
set_option maxHeartbeats 1000000 in
theorem run_any (s : ByteArray) (w : World) (hs : s.size ≤ 140737488400000) :
 Calls Tryz.prog 64 #[.string s] w fun e w' => RunPost w s e w' := by
 have S0 := Str.begin w s
 have HPOST : Hid (∀ w', Runs w.heap.size (w.alloc (.cells #[.string s, .int .i64 0, .slice none 0 0, .int .i64 0, .bool false] 136)) w' w.heap.size s (.slice none 0 0) (runF s) → RunPost w s (.returned (.pointer (some ⟨w.heap.size, 0, none⟩))) w') := fun w' h => run_post h
 go_enter Tryz.func64, Tryz.ntmps64
 go_wp2_with fail
 have R0 : RG (w.alloc (.cells #[.string s, .int .i64 0, .slice none 0 0, .int .i64 0, .bool false] 136)) (w.alloc (.cells #[.string s, .int .i64 0, .slice none 0 0, .int .i64 0, .bool false] 136)) w.heap.size s (8 * s.size + 1) start :=
  ⟨⟨by show 0 ≤ _; omega, by show 0 ≤ 5000; omega⟩, Runs.refl S0, by unfold restN; split <;> omega, rfl⟩
 clear S0
 generalize w.alloc (.cells #[.string s, .int .i64 0, .slice none 0 0, .int .i64 0, .bool false] 136) = w1 at R0 HPOST ⊢
 obtain ⟨gx, hgx⟩ : ∃ gx, gx = w.heap.size := ⟨_, rfl⟩
 rw [← hgx] at R0 HPOST ⊢
 clear hgx
 go_loopg [4, 5, 6, 7, 8, 9] (8 * s.size + 1) (fun fu _ _ _ _ _ _ wr => ∃ σ1 : St, RG w1 wr gx s fu σ1)
 case atStart => exact ⟨start, R0⟩
 case round =>
  obtain ⟨σ1, hrel⟩ := hrel
  clear R0
  obtain ⟨vt, hstr, hkp, hfr⟩ := hrel.runs
  have d3 := hstr.c3
  have d4 := hstr.c4
  by_cases hy : σ1.why = 0
  ·
   have e3 : ((σ1.why : Int) == 0) = true := by rw [beq_iff_eq]; omega
   cases hfi : σ1.fin
   ·
    rw [hfi] at d4
    go_wp2_with fail
    refine (bit_any gx gx s σ1 vt _ hstr hs hrel.fit.pos).mono ?_
    rintro e w2 ⟨rfl, h2, k2⟩
    have hbl := bitF_lt s σ1
    have HL : Hid (_) := fun w3 h3 k3 => rg_last (w2 := w3) hrel hy hfi hkp hfr h3 k3
    have HN : Hid (_) := fun w3 k3 hd σ5 w5 vt5 b h5e h5 k5 f5 hb => rg_next (w2 := w3) (σ5 := σ5) (w5 := w5) (vt5 := vt5) (b := b) hrel hy hfi hkp hfr k3 hd h5e h5 k5 f5 hb
    have ft2 := hrel.fit.bit
    generalize bitF s σ1 = q at h2 hbl HL HN ft2 ⊢
    obtain ⟨bv, σ2⟩ := q
    simp only at h2 hbl HL HN ft2 ⊢
    clear hrel hy hfi hkp hfr d3 d4 e3
    have hnl := numF_lt s 2 σ2
    have h22 : (2 : Nat) ^ 2 = 4 := rfl
    rw [h22] at hnl
    clear h22
    go_wp2_with fail
    refine (number_any gx gx 2 s σ2 vt _ h2 hs ft2.pos (by omega)).mono ?_
    rintro e w3 ⟨rfl, h3, k3⟩
    have ft3 : Fit s (numF s 2 σ2).2 := Fit.num 2 ft2
    generalize numF s 2 σ2 = q at h3 hnl HL HN ft3 ⊢
    obtain ⟨kk, σ3⟩ := q
    simp only at h3 hnl HL HN ft3 ⊢
    have k23 := k2.trans k3
    clear h2 k2 k3 ft2
    have d3 := h3.c3
    have hgx3 : gx ≤ w3.heap.size := Nat.le_of_lt h3.row.lt
    by_cases hy3 : σ3.why = 0
    ·
     have e3 : ((σ3.why : Int) != 0) = false := by rw [bne_eq_false_iff_eq]; omega
     have HN2 : Hid (_) := fun σ5 w5 vt5 b h5e h5 k5 f5 hb => HN.out w3 k23 hy3 σ5 w5 vt5 b h5e h5 k5 f5 hb
     clear HL HN hy3 k23
     rcases (by omega : kk = 0 ∨ kk = 1 ∨ kk = 2 ∨ kk = 3) with hk | hk | hk | hk
     ·
      have HBK : Hid (blockF s kk σ3 = plainF s σ3) := by show _ = _; unfold blockF; rw [if_pos hk]
      have t0 : ((kk : Int) == 0) = true := by rw [beq_iff_eq]; omega
      clear hk
      go_wp2_with fail
      refine (plain_any gx gx s σ3 vt _ h3 hgx3 hs ft3).mono ?_
      rintro e w5 ⟨rfl, hr5⟩
      rw [← HBK.out] at hr5
      obtain ⟨vt5, h5, k5, f5⟩ := hr5
      have HE5 : Hid (_) := fun (b : Bool) => HN2.out _ w5 vt5 b rfl h5 k5 f5
      clear HN2 k5 f5 h3 HBK
      generalize blockF s kk σ3 = σ5 at h5 HE5
      clear d3
      have d3 := h5.c3
      have d4 := h5.c4
      have f4 := h5.fz 4
      by_cases hy5 : σ5.why = 0
      ·
       have e3 : ((σ5.why : Int) == 0) = true := by rw [beq_iff_eq]; omega
       by_cases hb1 : bv = 1
       ·
        have e4 : ((bv : Int) == 1) = true := by rw [beq_iff_eq]; omega
        obtain ⟨hf1, R⟩ := HE5.out true (by rw [decide_eq_true ⟨hy5, hb1⟩])
        clear HE5 h5 hy5
        go_wp2
        go_roundg (gk - 1)
        case measure => omega
        case rel => exact ⟨_, R⟩
       ·
        have e4 : ((bv : Int) == 1) = false := by rw [beq_eq_false_iff_ne]; omega
        obtain ⟨hf1, R⟩ := HE5.out false (by rw [decide_eq_false (fun h => hb1 h.2)])
        clear HE5 h5 hy5
        go_wp2
        go_roundg (gk - 1)
        case measure => omega
        case rel => exact ⟨_, R⟩
      ·
       have e3 : ((σ5.why : Int) == 0) = false := by rw [beq_eq_false_iff_ne]; omega
       obtain ⟨hf1, R⟩ := HE5.out false (by rw [decide_eq_false (fun h => hy5 h.1)])
       clear HE5 h5 hy5
       go_wp2
       go_roundg (gk - 1)
       case measure => omega
       case rel => exact ⟨_, R⟩
     ·
      have HBK : Hid (blockF s kk σ3 = codedF s (codeT fixZ 288) 288 (codeT fivZ 32) 32 σ3) := by show _ = _; unfold blockF; rw [if_neg (by omega), if_pos hk]
      have t0 : ((kk : Int) == 0) = false := by rw [beq_eq_false_iff_ne]; omega
      have t1 : ((kk : Int) == 1) = true := by rw [beq_iff_eq]; omega
      clear hk
      go_wp2_with fail
      refine (fixed_any w3).mono ?_
      rintro e w4 ⟨gl, gd, rfl, hgl, hgd, rl, rd, hb4⟩
      have o1 : Off w3 gx vt gl := h3.off hgl
      have o2 : Off w3 gx vt gd := h3.off hgd
      have h4 := h3.later hb4
      have hgx4 : gx ≤ w4.heap.size := Nat.le_trans hgx3 hb4.size
      go_wp2_with fail
      refine (coded_any gx gx gl 288 288 gd 32 32 s (codeT fixZ 288) (codeT fivZ 32) σ3 vt _ h4 hgx4 hs ft3 rl o1.nx o1.nv (by omega) (fun i _ => codeT_most _ _ _ (fixZ_rng i)) rd o2.nx o2.nv (by omega) (fun i _ => codeT_most _ _ _ (by unfold fivZ; omega))).mono ?_
      rintro e w5 ⟨rfl, hr4⟩
      have hr5 := Runs.trans ((Kp.refl w3 gx vt).later hb4) (fun _ hg => Or.inl hg) hr4
      clear hr4 h4 rl rd o1 o2 hb4
      rw [← HBK.out] at hr5
      obtain ⟨vt5, h5, k5, f5⟩ := hr5
      have HE5 : Hid (_) := fun (b : Bool) => HN2.out _ w5 vt5 b rfl h5 k5 f5
      clear HN2 k5 f5 h3 HBK
      generalize blockF s kk σ3 = σ5 at h5 HE5
      clear d3
      have d3 := h5.c3
      have d4 := h5.c4
      have f4 := h5.fz 4
      by_cases hy5 : σ5.why = 0
      ·
       have e3 : ((σ5.why : Int) == 0) = true := by rw [beq_iff_eq]; omega
       by_cases hb1 : bv = 1
       ·
        have e4 : ((bv : Int) == 1) = true := by rw [beq_iff_eq]; omega
        obtain ⟨hf1, R⟩ := HE5.out true (by rw [decide_eq_true ⟨hy5, hb1⟩])
        clear HE5 h5 hy5
        go_wp2
        go_roundg (gk - 1)
        case measure => omega
        case rel => exact ⟨_, R⟩
       ·
        have e4 : ((bv : Int) == 1) = false := by rw [beq_eq_false_iff_ne]; omega
        obtain ⟨hf1, R⟩ := HE5.out false (by rw [decide_eq_false (fun h => hb1 h.2)])
        clear HE5 h5 hy5
        go_wp2
        go_roundg (gk - 1)
        case measure => omega
        case rel => exact ⟨_, R⟩
      ·
       have e3 : ((σ5.why : Int) == 0) = false := by rw [beq_eq_false_iff_ne]; omega
       obtain ⟨hf1, R⟩ := HE5.out false (by rw [decide_eq_false (fun h => hy5 h.1)])
       clear HE5 h5 hy5
       go_wp2
       go_roundg (gk - 1)
       case measure => omega
       case rel => exact ⟨_, R⟩
     ·
      have HBK : Hid (blockF s kk σ3 = ownBlk s σ3) := by show _ = _; unfold blockF; rw [if_neg (by omega), if_neg (by omega), if_pos hk]
      have t0 : ((kk : Int) == 0) = false := by rw [beq_eq_false_iff_ne]; omega
      have t1 : ((kk : Int) == 1) = false := by rw [beq_eq_false_iff_ne]; omega
      have t2 : ((kk : Int) == 2) = true := by rw [beq_iff_eq]; omega
      clear hk
      go_wp2_with fail
      refine (own_any gx gx s σ3 vt _ h3 hgx3 hs ft3).mono ?_
      rintro e w4 ⟨v1, v2, rfl, h4, k4, hdead, hgood⟩
      have HOB : Hid (ownBlk s σ3 = codedF s (codeT (lenZ (ownF s σ3).1 0) ((headF s σ3).a + 257)) ((headF s σ3).a + 257) (codeT (lenZ (ownF s σ3).1 ((headF s σ3).a + 257)) ((headF s σ3).b + 1)) ((headF s σ3).b + 1) (ownF s σ3).2) := rfl
      have ft4 := ownF_fit (s := s) ft3
      have hrg := ownF_rng (s := s) (σ := σ3)
      have hgx4 : gx ≤ w4.heap.size := Nat.le_trans hgx3 k4.size
      generalize ownF s σ3 = p at h4 hdead hgood HOB ft4 hrg
      generalize headF s σ3 = hd at hgood HOB hrg
      obtain ⟨L, σ4⟩ := p
      simp only at h4 hdead hgood HOB ft4 hrg
      by_cases hy4 : σ4.why = 0
      ·
       obtain ⟨gl, gd, rfl, rfl, hgl, hgd, rl, rd⟩ := hgood hy4
       obtain ⟨hrn, ha29, hb29⟩ := hrg hy4
       have hz1 : ∀ i, i < hd.a + 257 → (codeT (lenZ L 0) (hd.a + 257) i).size ≤ 15 := fun i _ => codeT_most _ _ _ (lenZ_rng hrn 0 i)
       have hz2 : ∀ i, i < hd.b + 1 → (codeT (lenZ L (hd.a + 257)) (hd.b + 1) i).size ≤ 15 := fun i _ => codeT_most _ _ _ (lenZ_rng hrn _ i)
       generalize codeT (lenZ L 0) (hd.a + 257) = c1 at rl HOB hz1
       generalize codeT (lenZ L (hd.a + 257)) (hd.b + 1) = c2 at rd HOB hz2
       have hna : hd.a + 257 ≤ 1000 := by omega
       have hnb : hd.b + 1 ≤ 1000 := by omega
       generalize hd.a + 257 = na at rl HOB hz1 hna ⊢
       generalize hd.b + 1 = nb at rd HOB hz2 hnb ⊢
       have o1 : Off w3 gx vt gl := h3.off hgl
       have o2 : Off w3 gx vt gd := h3.off hgd
       clear hrn hrg hdead hgood hy4
       go_wp2_with fail
       refine (coded_any gx gx gl na na gd nb nb s c1 c2 σ4 vt _ h4 hgx4 hs ft4 rl o1.nx o1.nv hna hz1 rd o2.nx o2.nv hnb hz2).mono ?_
       rintro e w5 ⟨rfl, hr4⟩
       have hr5 := Runs.trans k4 (fun _ hg => Or.inl hg) hr4
       rw [← HOB.out] at hr5
       clear hr4 h4 rl rd o1 o2 k4 HOB hz1 hz2
       rw [← HBK.out] at hr5
       obtain ⟨vt5, h5, k5, f5⟩ := hr5
       have HE5 : Hid (_) := fun (b : Bool) => HN2.out _ w5 vt5 b rfl h5 k5 f5
       clear HN2 k5 f5 h3 HBK
       generalize blockF s kk σ3 = σ5 at h5 HE5
       clear d3
       have d3 := h5.c3
       have d4 := h5.c4
       have f4 := h5.fz 4
       by_cases hy5 : σ5.why = 0
       ·
        have e3 : ((σ5.why : Int) == 0) = true := by rw [beq_iff_eq]; omega
        by_cases hb1 : bv = 1
        ·
         have e4 : ((bv : Int) == 1) = true := by rw [beq_iff_eq]; omega
         obtain ⟨hf1, R⟩ := HE5.out true (by rw [decide_eq_true ⟨hy5, hb1⟩])
         clear HE5 h5 hy5
         go_wp2
         go_roundg (gk - 1)
         case measure => omega
         case rel => exact ⟨_, R⟩
        ·
         have e4 : ((bv : Int) == 1) = false := by rw [beq_eq_false_iff_ne]; omega
         obtain ⟨hf1, R⟩ := HE5.out false (by rw [decide_eq_false (fun h => hb1 h.2)])
         clear HE5 h5 hy5
         go_wp2
         go_roundg (gk - 1)
         case measure => omega
         case rel => exact ⟨_, R⟩
       ·
        have e3 : ((σ5.why : Int) == 0) = false := by rw [beq_eq_false_iff_ne]; omega
        obtain ⟨hf1, R⟩ := HE5.out false (by rw [decide_eq_false (fun h => hy5 h.1)])
        clear HE5 h5 hy5
        go_wp2
        go_roundg (gk - 1)
        case measure => omega
        case rel => exact ⟨_, R⟩
      ·
       obtain ⟨rfl, rfl⟩ := hdead hy4
       have HOB2 : Hid (ownBlk s σ3 = σ4) := by show _ = _; rw [HOB.out, codedF_dead hy4]
       clear hgood hrg hdead HOB
       go_wp2_with fail
       refine (coded_dead gx gx s σ4 vt _ h4 hy4).mono ?_
       rintro e w5 ⟨rfl, rfl⟩
       have hr5 : Runs gx w3 w5 gx s vt σ4 := ⟨vt, h4, k4, fun _ hg => Or.inl hg⟩
       rw [← HOB2.out] at hr5
       clear h4 k4 HOB2 hy4
       rw [← HBK.out] at hr5
       obtain ⟨vt5, h5, k5, f5⟩ := hr5
       have HE5 : Hid (_) := fun (b : Bool) => HN2.out _ w5 vt5 b rfl h5 k5 f5
       clear HN2 k5 f5 h3 HBK
       generalize blockF s kk σ3 = σ5 at h5 HE5
       clear d3
       have d3 := h5.c3
       have d4 := h5.c4
       have f4 := h5.fz 4
       by_cases hy5 : σ5.why = 0
       ·
        have e3 : ((σ5.why : Int) == 0) = true := by rw [beq_iff_eq]; omega
        by_cases hb1 : bv = 1
        ·
         have e4 : ((bv : Int) == 1) = true := by rw [beq_iff_eq]; omega
         obtain ⟨hf1, R⟩ := HE5.out true (by rw [decide_eq_true ⟨hy5, hb1⟩])
         clear HE5 h5 hy5
         go_wp2
         go_roundg (gk - 1)
         case measure => omega
         case rel => exact ⟨_, R⟩
        ·
         have e4 : ((bv : Int) == 1) = false := by rw [beq_eq_false_iff_ne]; omega
         obtain ⟨hf1, R⟩ := HE5.out false (by rw [decide_eq_false (fun h => hb1 h.2)])
         clear HE5 h5 hy5
         go_wp2
         go_roundg (gk - 1)
         case measure => omega
         case rel => exact ⟨_, R⟩
       ·
        have e3 : ((σ5.why : Int) == 0) = false := by rw [beq_eq_false_iff_ne]; omega
        obtain ⟨hf1, R⟩ := HE5.out false (by rw [decide_eq_false (fun h => hy5 h.1)])
        clear HE5 h5 hy5
        go_wp2
        go_roundg (gk - 1)
        case measure => omega
        case rel => exact ⟨_, R⟩
     ·
      have HBK : Hid (blockF s kk σ3 = stopF σ3 1) := by show _ = _; unfold blockF; rw [if_neg (by omega), if_neg (by omega), if_neg (by omega)]
      have t0 : ((kk : Int) == 0) = false := by rw [beq_eq_false_iff_ne]; omega
      have t1 : ((kk : Int) == 1) = false := by rw [beq_eq_false_iff_ne]; omega
      have t2 : ((kk : Int) == 2) = false := by rw [beq_eq_false_iff_ne]; omega
      clear hk
      go_wp2_with fail
      refine (stops_any gx gx 1 s σ3 vt _ h3).mono ?_
      rintro e w5 ⟨rfl, h4, k4⟩
      have hr5 : Runs gx w3 w5 gx s vt (stopF σ3 1) := ⟨vt, h4, k4, fun _ hg => Or.inl hg⟩
      clear h4 k4
      rw [← HBK.out] at hr5
      obtain ⟨vt5, h5, k5, f5⟩ := hr5
      have HE5 : Hid (_) := fun (b : Bool) => HN2.out _ w5 vt5 b rfl h5 k5 f5
      clear HN2 k5 f5 h3 HBK
      generalize blockF s kk σ3 = σ5 at h5 HE5
      clear d3
      have d3 := h5.c3
      have d4 := h5.c4
      have f4 := h5.fz 4
      by_cases hy5 : σ5.why = 0
      ·
       have e3 : ((σ5.why : Int) == 0) = true := by rw [beq_iff_eq]; omega
       by_cases hb1 : bv = 1
       ·
        have e4 : ((bv : Int) == 1) = true := by rw [beq_iff_eq]; omega
        obtain ⟨hf1, R⟩ := HE5.out true (by rw [decide_eq_true ⟨hy5, hb1⟩])
        clear HE5 h5 hy5
        go_wp2
        go_roundg (gk - 1)
        case measure => omega
        case rel => exact ⟨_, R⟩
       ·
        have e4 : ((bv : Int) == 1) = false := by rw [beq_eq_false_iff_ne]; omega
        obtain ⟨hf1, R⟩ := HE5.out false (by rw [decide_eq_false (fun h => hb1 h.2)])
        clear HE5 h5 hy5
        go_wp2
        go_roundg (gk - 1)
        case measure => omega
        case rel => exact ⟨_, R⟩
      ·
       have e3 : ((σ5.why : Int) == 0) = false := by rw [beq_eq_false_iff_ne]; omega
       obtain ⟨hf1, R⟩ := HE5.out false (by rw [decide_eq_false (fun h => hy5 h.1)])
       clear HE5 h5 hy5
       go_wp2
       go_roundg (gk - 1)
       case measure => omega
       case rel => exact ⟨_, R⟩
    ·
     have e3 : ((σ3.why : Int) != 0) = true := by rw [bne_iff_ne]; omega
     have P := HPOST.out w3 (HL.out w3 h3 k23 hy3)
     clear HL HN h3 k23 hy3
     go_wp2
     go_ret
     exact P
   ·
    rw [hfi] at d4
    have P := HPOST.out wr (hrel.fin (by rw [hfi]; simp))
    clear hrel hstr hkp hfr hy
    go_wp2
    go_ret
    exact P
  ·
   have e3 : ((σ1.why : Int) == 0) = false := by rw [beq_eq_false_iff_ne]; omega
   have P := HPOST.out wr (hrel.fin (fun h => hy h.1))
   clear hrel hstr hkp hfr hy
   go_wp2
   go_ret
   exact P
end Go.Proofs.YtecddphahiadlaaGreatDoor
