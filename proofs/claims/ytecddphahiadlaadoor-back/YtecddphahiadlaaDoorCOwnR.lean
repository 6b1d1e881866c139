/- The document's own: the codes of kind 2. -/
import Derived.Test.YtecddphahiadlaaDoorCOwnF
import Derived.Test.YtecddphahiadlaaDoorCLens
import Derived.Deep.CutBlock
import Derived.Deep.DeepCutAuto
namespace Go.Proofs.YtecddphahiadlaaDoor
open Go.RowKit

def OwnPost (B : Nat) (w : World) (gx : Nat) (s : ByteArray) (vt : Value) (h : Head) (p : List Int × St) (e : Ending) (w' : World) : Prop :=
  ∃ v1 v2, e = .returned (.tuple #[v1, v2]) ∧ Str B w' gx s p.2 vt ∧ Kp w w' gx vt ∧ (p.2.why ≠ 0 → v1 = .slice none 0 0 ∧ v2 = .slice none 0 0) ∧
    (p.2.why = 0 → ∃ gl gd, v1 = .slice (some ⟨gl, 0, none⟩) (h.a + 257) (h.a + 257) ∧ v2 = .slice (some ⟨gd, 0, none⟩) (h.b + 1) (h.b + 1) ∧ w.heap.size ≤ gl ∧ w.heap.size ≤ gd ∧
      w'.rowIs gl 9 (h.a + 257) (fun i => .string (codeT (lenZ p.1 0) (h.a + 257) i)) ∧ w'.rowIs gd 9 (h.b + 1) (fun i => .string (codeT (lenZ p.1 (h.a + 257)) (h.b + 1) i)))

theorem lensF_rng {s : ByteArray} {n many : Nat} {σ : St} (h : (lensF s n many σ).2.why = 0) : (∀ y ∈ (lensF s n many σ).1, 0 ≤ y ∧ y ≤ 15) ∧ (lensF s n many σ).1.length = n := by
  have hl := headGo_lt s many 0 (fun _ => 0) σ (fun _ => by omega)
  unfold lensF at h ⊢
  generalize headGo s many 0 (fun _ => 0) σ = a at h hl ⊢
  unfold lensTail at h ⊢
  by_cases c1 : a.2.why ≠ 0
  · rw [if_pos c1] at h; exact absurd h c1
  · rw [if_neg c1] at h ⊢
    by_cases c2 : ks0 (headZ a.1) 19 ≠ 32768
    · rw [if_pos c2] at h; exact absurd h (stopF_why (by omega))
    · rw [if_neg c2] at h ⊢
      exact lenGo_rng (fun i _ => codeT_most _ _ _ (by have := hl i; unfold headZ; omega)) (n + 1) [] _ (by simp) (by simp) (by simp) h

theorem lenZ_rng {L : List Int} (h : ∀ y ∈ L, 0 ≤ y ∧ y ≤ 15) (off i : Nat) : 0 ≤ lenZ L off i ∧ lenZ L off i ≤ 15 := by
  unfold lenZ
  rw [List.getD_eq_getElem?_getD]
  cases hc : L[off + i]? with
  | none => simp
  | some x => exact h x (List.mem_of_getElem? hc)

def Sm (a b : World) : Prop := b = a

structure OC (B : Nat) (w : World) (gx : Nat) (s : ByteArray) (vt : Value) (σ : St) (wx : World) : Prop where
  str : Str B wx gx s σ vt
  kp : Kp w wx gx vt
  fit : Fit s σ

set_option maxRecDepth 4000 in
set_option maxHeartbeats 1000000 in
theorem own_any (B gx : Nat) (s : ByteArray) (σ : St) (vt : Value) (w : World) (h : Str B w gx s σ vt) (hB : B ≤ w.heap.size) (hs : s.size ≤ 140737488400000) (hf : Fit s σ) :
    Calls Tryd.prog 40 #[.pointer (some ⟨gx, 0, none⟩)] w fun e w' => OwnPost B w gx s vt (headF s σ) (ownF s σ) e w' := by
  have hnb := numF_lt s 5 σ
  have h25 : (2 : Nat) ^ 5 = 32 := rfl
  have h24 : (2 : Nat) ^ 4 = 16 := rfl
  rw [h25] at hnb
  go_enter Tryd.func40, Tryd.ntmps40
  go_wp2_with fail
  refine (number_any B gx 5 s σ vt _ h hs hf.pos (by omega)).mono ?_
  rintro e w1 ⟨rfl, h1, k1⟩
  have HP : Hid (headF s σ = ⟨(numF s 5 σ).1, (numF s 5 (stop29 (numF s 5 σ))).1, (numF s 4 (stop29 (numF s 5 (stop29 (numF s 5 σ))))).1, (numF s 4 (stop29 (numF s 5 (stop29 (numF s 5 σ))))).2⟩) := rfl
  have f1 := hf.num 5
  generalize numF s 5 σ = pa at h1 hnb HP f1 ⊢
  obtain ⟨a, σ1⟩ := pa
  simp only at h1 hnb f1 ⊢
  have C1 : OC B w gx s vt σ1 w1 := ⟨h1, k1, f1⟩
  clear h1 k1 f1 hf h25
  go_upto_region 2 with fail
  go_cut [23] (fun v wx => v = .bool (decide (σ1.why = 0 ∧ 29 < a)) ∧ OC B w gx s vt σ1 wx)
  case first =>
    have d3 := C1.str.c3
    by_cases hy : σ1.why = 0
    · have e3 : ((σ1.why : Int) == 0) = true := by rw [beq_iff_eq]; omega
      by_cases h29 : 29 < a
      · have HB2 : Hid (decide (σ1.why = 0 ∧ 29 < a) = true) := decide_eq_true ⟨hy, h29⟩
        have dA : decide ((29 : Int) < (a : Int)) = true := by rw [decide_eq_true_iff]; omega
        clear hy
        go_wp2_with fail
        go_meet
        exact ⟨by rw [HB2.out], C1⟩
      · have HB2 : Hid (decide (σ1.why = 0 ∧ 29 < a) = false) := decide_eq_false (fun h => h29 h.2)
        have dA : decide ((29 : Int) < (a : Int)) = false := by rw [decide_eq_false_iff_not]; omega
        clear hy
        go_wp2_with fail
        go_meet
        exact ⟨by rw [HB2.out], C1⟩
    · have e3 : ((σ1.why : Int) == 0) = false := by rw [beq_eq_false_iff_ne]; omega
      have HB2 : Hid (decide (σ1.why = 0 ∧ 29 < a) = false) := decide_eq_false (fun h => hy h.1)
      clear hy
      go_wp2_with fail
      go_meet
      exact ⟨by rw [HB2.out], C1⟩
  case rest =>
    obtain ⟨rfl, C1x⟩ := hcut
    clear C1
    go_upto_if 23 with fail
    go_cut [4] (fun v wx => v = .int .i64 (a : Nat) ∧ OC B w gx s vt (stop29 (a, σ1)) wx)
    case first =>
      by_cases hb : σ1.why = 0 ∧ 29 < a
      · have HB2 : decide (σ1.why = 0 ∧ 29 < a) = true := decide_eq_true hb
        have HS2 : Hid (stop29 (a, σ1) = stopF σ1 1) := by show _ = _; unfold stop29; rw [if_pos hb]
        rw [HB2]
        clear hb HB2
        go_wp2_with fail
        refine (stops_any B gx 1 s σ1 vt _ C1x.str).mono ?_
        rintro e w5 ⟨rfl, h5, k5⟩
        have C5 : OC B w gx s vt (stop29 (a, σ1)) w5 := ⟨by rw [HS2.out]; exact h5, C1x.kp.trans k5, C1x.fit.stop29⟩
        clear h5 k5 HS2
        go_wp2_with fail
        go_meet
        exact ⟨rfl, C5⟩
      · have HB2 : decide (σ1.why = 0 ∧ 29 < a) = false := decide_eq_false hb
        have HS2 : Hid (stop29 (a, σ1) = σ1) := by show _ = _; unfold stop29; rw [if_neg hb]
        rw [HB2]
        clear hb HB2
        go_wp2_with fail
        go_meet
        exact ⟨rfl, by rw [HS2.out]; exact C1x⟩
    case rest =>
      obtain ⟨rfl, C1y⟩ := hcut
      clear C1x
      have hnb2 := numF_lt s 5 (stop29 (a, σ1))
      have h25 : (2 : Nat) ^ 5 = 32 := rfl
      rw [h25] at hnb2
      clear h25
      have HA2 : Hid ((numF s 5 (stop29 (a, σ1))).2.why = 0 → (stop29 (a, σ1)).why = 0) := numF_alive 5
      go_wp2_with fail
      refine (number_any B gx 5 s _ vt _ C1y.str hs C1y.fit.pos (by omega)).mono ?_
      rintro e w2 ⟨rfl, h2, k2⟩
      have f2 := C1y.fit.num 5
      have C2 : OC B w gx s vt (numF s 5 (stop29 (a, σ1))).2 w2 := ⟨h2, C1y.kp.trans k2, f2⟩
      clear h2 k2 f2 C1y
      generalize numF s 5 (stop29 (a, σ1)) = pb at C2 hnb2 HP HA2 ⊢
      obtain ⟨b, σ2⟩ := pb
      simp only at C2 hnb2 HP HA2 ⊢
      go_upto_region 5 with fail
      go_cut [36] (fun v wx => v = .bool (decide (σ2.why = 0 ∧ 29 < b)) ∧ OC B w gx s vt σ2 wx)
      case first =>
        have d3 := C2.str.c3
        by_cases hy : σ2.why = 0
        · have e3 : ((σ2.why : Int) == 0) = true := by rw [beq_iff_eq]; omega
          by_cases h29 : 29 < b
          · have HB2 : Hid (decide (σ2.why = 0 ∧ 29 < b) = true) := decide_eq_true ⟨hy, h29⟩
            have dA : decide ((29 : Int) < (b : Int)) = true := by rw [decide_eq_true_iff]; omega
            clear hy
            go_wp2_with fail
            go_meet
            exact ⟨by rw [HB2.out], C2⟩
          · have HB2 : Hid (decide (σ2.why = 0 ∧ 29 < b) = false) := decide_eq_false (fun h => h29 h.2)
            have dA : decide ((29 : Int) < (b : Int)) = false := by rw [decide_eq_false_iff_not]; omega
            clear hy
            go_wp2_with fail
            go_meet
            exact ⟨by rw [HB2.out], C2⟩
        · have e3 : ((σ2.why : Int) == 0) = false := by rw [beq_eq_false_iff_ne]; omega
          have HB2 : Hid (decide (σ2.why = 0 ∧ 29 < b) = false) := decide_eq_false (fun h => hy h.1)
          clear hy
          go_wp2_with fail
          go_meet
          exact ⟨by rw [HB2.out], C2⟩
      case rest =>
        obtain ⟨rfl, C2x⟩ := hcut
        clear C2
        go_upto_if 36 with fail
        go_cut [5] (fun v wx => v = .int .i64 (b : Nat) ∧ OC B w gx s vt (stop29 (b, σ2)) wx)
        case first =>
          by_cases hb : σ2.why = 0 ∧ 29 < b
          · have HB2 : decide (σ2.why = 0 ∧ 29 < b) = true := decide_eq_true hb
            have HS2 : Hid (stop29 (b, σ2) = stopF σ2 1) := by show _ = _; unfold stop29; rw [if_pos hb]
            rw [HB2]
            clear hb HB2
            go_wp2_with fail
            refine (stops_any B gx 1 s σ2 vt _ C2x.str).mono ?_
            rintro e w5 ⟨rfl, h5, k5⟩
            have C5 : OC B w gx s vt (stop29 (b, σ2)) w5 := ⟨by rw [HS2.out]; exact h5, C2x.kp.trans k5, C2x.fit.stop29⟩
            clear h5 k5 HS2
            go_wp2_with fail
            go_meet
            exact ⟨rfl, C5⟩
          · have HB2 : decide (σ2.why = 0 ∧ 29 < b) = false := decide_eq_false hb
            have HS2 : Hid (stop29 (b, σ2) = σ2) := by show _ = _; unfold stop29; rw [if_neg hb]
            rw [HB2]
            clear hb HB2
            go_wp2_with fail
            go_meet
            exact ⟨rfl, by rw [HS2.out]; exact C2x⟩
        case rest =>
          obtain ⟨rfl, C2y⟩ := hcut
          clear C2x
          have hnb3 := numF_lt s 4 (stop29 (b, σ2))
          have h24 : (2 : Nat) ^ 4 = 16 := rfl
          rw [h24] at hnb3
          clear h24
          have HA3 : Hid ((numF s 4 (stop29 (b, σ2))).2.why = 0 → (stop29 (b, σ2)).why = 0) := numF_alive 4
          go_wp2_with fail
          refine (number_any B gx 4 s _ vt _ C2y.str hs C2y.fit.pos (by omega)).mono ?_
          rintro e w3 ⟨rfl, h3, k3⟩
          have f3 := C2y.fit.num 4
          have C3 : OC B w gx s vt (numF s 4 (stop29 (b, σ2))).2 w3 := ⟨h3, C2y.kp.trans k3, f3⟩
          clear h3 k3 f3 C2y
          generalize numF s 4 (stop29 (b, σ2)) = pc at C3 hnb3 HP HA3 ⊢
          obtain ⟨cc, σ3⟩ := pc
          simp only at C3 hnb3 HP HA3 ⊢
          have d3 := C3.str.c3
          by_cases hy : σ3.why = 0
          · have e3 : ((σ3.why : Int) != 0) = false := by rw [bne_eq_false_iff_eq]; omega
            obtain ⟨hb29, hb0⟩ := stop29_le (HA3.out hy)
            obtain ⟨ha29, _⟩ := stop29_le (HA2.out (by rw [hb0] at HA3; exact HA3.out hy))
            simp only at hb29 ha29
            obtain ⟨n, hn⟩ : ∃ n, n = a + b + 258 := ⟨_, rfl⟩
            obtain ⟨m, hm⟩ : ∃ m, m = cc + 4 := ⟨_, rfl⟩
            have hnI : (a : Int) + (b : Int) + 258 = (n : Int) := by omega
            have hmI : (cc : Int) + 4 = (m : Int) := by omega
            have HO : Hid (ownF s σ = ((lensF s n m σ3).1, ownEnd (lensF s n m σ3) a b)) := by
              show _ = _
              unfold ownF
              rw [HP.out, if_neg (by show ¬ ¬ σ3.why = 0; omega), hn, hm]
            have hrg := lensF_rng (s := s) (n := n) (many := m) (σ := σ3)
            have hB3 : B ≤ w3.heap.size := Nat.le_trans hB C3.kp.size
            have HAB : Hid (n = a + b + 258) := hn
            have hn4 : n ≤ 400 := by omega
            have hn1 : 258 ≤ n := by omega
            have hm19 : m ≤ 19 := by omega
            clear hb0 HA3 HA2 hy hn hm
            go_wp2_with fail
            refine (lengths_any B gx n m s σ3 vt _ C3.str hB3 hs C3.fit (by omega) hn4 hm19).mono ?_
            rintro e w4 ⟨v, rfl, h4, k4, hgood⟩
            have K4 := C3.kp.trans k4
            have hs4 := Nat.le_trans C3.kp.size k4.size
            have hs3 := C3.kp.size
            clear C3 k4 d3 e3 hnI hmI
            generalize lensF s n m σ3 = p at h4 hgood HO hrg ⊢
            obtain ⟨L, σ4⟩ := p
            simp only at h4 hgood HO hrg
            have d3 := h4.c3
            by_cases hy : σ4.why = 0
            · have e3 : ((σ4.why : Int) != 0) = false := by rw [bne_eq_false_iff_eq]; omega
              obtain ⟨g, cp, rfl, hg, hcp, hI⟩ := hgood hy
              obtain ⟨hrn, hLn⟩ := hrg hy
              have HRN : Hid (∀ y ∈ L, 0 ≤ y ∧ y ≤ 15) := hrn
              have HLN : Hid (L.length = n) := hLn
              have HI : Hid (IntsAt w4 g 0 n (fun i => L.getD i 0)) := hI
              have HY : Hid (σ4.why = 0) := hy
              have i1 : (a : Int) + 257 ≤ (cp : Int) := by have := HAB.out; omega
              have i2 : (a : Int) + 257 ≤ (n : Int) := by have := HAB.out; omega
              obtain ⟨na, hna⟩ : ∃ na, na = a + 257 := ⟨_, rfl⟩
              have hnaI : (a : Int) + 257 = (na : Int) := by omega
              rw [hnaI] at i1 i2
              have i3 : na < cp := by have := HAB.out; omega
              have i4 : ¬ cp = na := by omega
              have HNA : Hid (na = a + 257) := hna
              clear hgood hrg hrn hLn hI hy hna
              go_wp2_with fail
              obtain ⟨nb, hnb9⟩ : ∃ nb, nb = b + 1 := ⟨_, rfl⟩
              have hnn : n - na = nb := by have := HAB.out; have := HNA.out; omega
              have HNB : Hid (nb = b + 1) := hnb9
              have hna3 : na ≤ 286 := by have := HNA.out; omega
              have hna2 : 257 ≤ na := by have := HNA.out; omega
              have hnb8 : nb ≤ 30 := by omega
              have IS : IntsAt w4 g 0 na (lenZ L 0) := ⟨fun i hi => by have e := HI.out.cell i (by omega); unfold lenZ; rw [Nat.zero_add] at e ⊢; exact e, HI.out.lt⟩
              have ID : IntsAt w4 g na nb (lenZ L na) := ⟨fun i hi => by have e := HI.out.cell (na + i) (by omega); rw [Nat.zero_add] at e; exact e, HI.out.lt⟩
              have c256 := HI.out.cell 256 (by omega)
              rw [Nat.zero_add] at c256
              have i5 : (256 : Int) < (na : Int) := by omega
              have b1 := ks0_le (lenZ L 0) na
              have b2 := ks0_le (lenZ L na) nb
              have b3 := usedN_le (lenZ L na) nb
              have HBAD : Hid (badL L a b = (!(ks0 (lenZ L 0) na == 32768) || L.getD 256 0 == 0 || (!(ks0 (lenZ L na) nb == 32768) && decide (0 < usedN (lenZ L na) nb) && !(usedN (lenZ L na) nb == 1 && ks0 (lenZ L na) nb == 16384)))) := by
                show _ = _
                unfold badL
                rw [← HNA.out, ← HNB.out]
              rw [hnn]
              clear hnb9 hnn d3 e3
              refine (rleft_any g 0 na cp (lenZ L 0) _ IS (by omega) (fun i _ => lenZ_rng HRN.out 0 i)).mono ?_
              rintro e w4 ⟨rfl, rfl⟩
              go_wp2_with fail
              refine (rleft_any g na nb (cp - na) (lenZ L na) _ ID (by omega) (fun i _ => lenZ_rng HRN.out na i)).mono ?_
              rintro e w4 ⟨rfl, rfl⟩
              go_wp2_with fail
              refine (used_any g na nb (cp - na) (lenZ L na) _ ID (by omega)).mono ?_
              rintro e w4 ⟨rfl, rfl⟩
              have HKS : Hid (badL L a b = false → ks0 (lenZ L 0) na = 32768 ∧ ks0 (lenZ L na) nb ≤ 32768) := fun h => by
                have e := badL_not h
                rw [← HNA.out, ← HNB.out] at e
                exact ⟨e.1, e.2.2⟩
              generalize hMM : ks0 (lenZ L 0) na = M at b1 HBAD HKS ⊢
              generalize hNN : ks0 (lenZ L na) nb = N at b2 HBAD HKS ⊢
              have HMM : Hid (ks0 (lenZ L 0) na = M) := hMM
              have HNN : Hid (ks0 (lenZ L na) nb = N) := hNN
              clear hMM hNN
              generalize usedN (lenZ L na) nb = U at b3 HBAD ⊢
              generalize hX : L.getD 256 0 = X at c256 HBAD
              clear hX
              go_upto_region 18 with fail
              go_cut [97] (fun v wx => v = .bool (badL L a b) ∧ Sm w4 wx)
              case first =>
                by_cases c1 : M = 32768
                · have e1 : ((32768 : Int) - (M : Int) != 0) = false := by rw [bne_eq_false_iff_eq]; omega
                  by_cases c2 : X = 0
                  · have e2 : (X == 0) = true := by rw [beq_iff_eq]; exact c2
                    have HQ : Hid (badL L a b = true) := by show _ = _; rw [HBAD.out]; simp [c1, c2]
                    clear HBAD HKS
                    go_wp2_with fail
                    go_meet
                    exact ⟨by rw [HQ.out], rfl⟩
                  · have e2 : (X == 0) = false := by rw [beq_eq_false_iff_ne]; exact c2
                    by_cases c3 : N = 32768
                    · have e4 : ((32768 : Int) - (N : Int) != 0) = false := by rw [bne_eq_false_iff_eq]; omega
                      have HQ : Hid (badL L a b = false) := by show _ = _; rw [HBAD.out]; simp [c1, c2, c3]
                      clear HBAD HKS
                      go_wp2_with fail
                      go_meet
                      exact ⟨by rw [HQ.out], rfl⟩
                    · have e4 : ((32768 : Int) - (N : Int) != 0) = true := by rw [bne_iff_ne]; omega
                      by_cases c4 : 0 < U
                      · have e5 : decide ((0 : Int) < (U : Int)) = true := by rw [decide_eq_true_iff]; omega
                        by_cases c5 : U = 1
                        · have e6 : ((U : Int) == 1) = true := by rw [beq_iff_eq]; omega
                          by_cases c6 : N = 16384
                          · have e7 : ((32768 : Int) - (N : Int) == 16384) = true := by rw [beq_iff_eq]; omega
                            have HQ : Hid (badL L a b = false) := by show _ = _; rw [HBAD.out]; simp [c1, c2, c5, c6]
                            clear HBAD HKS
                            go_wp2_with fail
                            go_meet
                            exact ⟨by rw [HQ.out], rfl⟩
                          · have e7 : ((32768 : Int) - (N : Int) == 16384) = false := by rw [beq_eq_false_iff_ne]; omega
                            have HQ : Hid (badL L a b = true) := by show _ = _; rw [HBAD.out]; simp [c1, c2, c3, c5, c6]
                            clear HBAD HKS
                            go_wp2_with fail
                            go_meet
                            exact ⟨by rw [HQ.out], rfl⟩
                        · have e6 : ((U : Int) == 1) = false := by rw [beq_eq_false_iff_ne]; omega
                          have HQ : Hid (badL L a b = true) := by show _ = _; rw [HBAD.out]; simp [c1, c2, c3, c4, c5]
                          clear HBAD HKS
                          go_wp2_with fail
                          go_meet
                          exact ⟨by rw [HQ.out], rfl⟩
                      · have e5 : decide ((0 : Int) < (U : Int)) = false := by rw [decide_eq_false_iff_not]; omega
                        have HQ : Hid (badL L a b = false) := by show _ = _; rw [HBAD.out]; simp [c1, c2, c4]
                        clear HBAD HKS
                        go_wp2_with fail
                        go_meet
                        exact ⟨by rw [HQ.out], rfl⟩
                · have e1 : ((32768 : Int) - (M : Int) != 0) = true := by rw [bne_iff_ne]; omega
                  have HQ : Hid (badL L a b = true) := by show _ = _; rw [HBAD.out]; simp [c1]
                  clear HBAD HKS
                  go_wp2_with fail
                  go_meet
                  exact ⟨by rw [HQ.out], rfl⟩
              case rest =>
                obtain ⟨rfl, hsm⟩ := hcut
                unfold Sm at hsm
                subst hsm
                cases hbad : badL L a b
                · obtain ⟨q1, q2⟩ := HKS.out hbad
                  have kr1 : kr (cntN (lenZ L 0) na) 15 ≤ 32768 := by rw [kr_ks0 _ _ (fun i _ => lenZ_rng HRN.out 0 i), HMM.out]; omega
                  have kr2 : kr (cntN (lenZ L na) nb) 15 ≤ 32768 := by rw [kr_ks0 _ _ (fun i _ => lenZ_rng HRN.out na i), HNN.out]; omega
                  have HOO : Hid (ownF s σ = (L, σ4)) := by
                    show _ = _
                    rw [HO.out]; unfold ownEnd; rw [if_neg (by rw [hbad]; simp)]
                  clear q1 q2 hbad HKS HBAD
                  go_wp2_with fail
                  refine (rcodes_any g 0 na cp (lenZ L 0) _ IS (by omega) (fun i _ => lenZ_rng HRN.out 0 i) kr1).mono ?_
                  rintro e w5 ⟨rfl, r5, b5⟩
                  have ID5 := ID.later b5
                  go_wp2_with fail
                  refine (rcodes_any g na nb (cp - na) (lenZ L na) _ ID5 (by omega) (fun i _ => lenZ_rng HRN.out na i) kr2).mono ?_
                  rintro e w6 ⟨rfl, r6, b6⟩
                  have hz5 := b5.size
                  have P : OwnPost B w gx s vt (headF s σ) (ownF s σ) (.returned (.tuple #[.slice (some ⟨wc.heap.size, 0, none⟩) na na, .slice (some ⟨w5.heap.size, 0, none⟩) nb nb])) w6 := by
                    rw [HOO.out, HP.out]
                    refine ⟨_, _, rfl, (h4.later b5).later b6, (K4.later b5).later b6, fun hz => absurd HY.out hz, fun _ => ⟨wc.heap.size, w5.heap.size, ?_, ?_, hs4, by omega, ?_, ?_⟩⟩
                    · show Value.slice _ na na = .slice _ (a + 257) (a + 257); rw [← HNA.out]
                    · show Value.slice _ nb nb = .slice _ (b + 1) (b + 1); rw [← HNB.out]
                    · show World.rowIs _ _ _ (a + 257) _; rw [← HNA.out]; exact r5.of_block (b6.block _ r5.lt)
                    · show World.rowIs _ _ _ (b + 1) _; rw [← HNB.out, ← HNA.out]; exact r6
                  clear r5 r6 b5 b6 IS ID ID5 HOO HO HP h4 K4
                  go_wp2
                  go_ret2
                  exact P
                · have HOO : Hid (ownF s σ = (L, stopF σ4 1)) := by
                    show _ = _
                    rw [HO.out]; unfold ownEnd; rw [if_pos ⟨HY.out, hbad⟩]
                  clear hbad HKS HBAD IS ID
                  go_wp2_with fail
                  refine (stops_any B gx 1 s σ4 vt _ h4).mono ?_
                  rintro e w5 ⟨rfl, h5, k5⟩
                  have P : OwnPost B w gx s vt (headF s σ) (ownF s σ) (.returned (.tuple #[.slice none 0 0, .slice none 0 0])) w5 := by
                    rw [HOO.out]
                    exact ⟨_, _, rfl, h5, K4.trans k5, fun _ => ⟨rfl, rfl⟩, fun hz => absurd hz (stopF_why (by omega))⟩
                  clear h5 k5 HOO HO HP h4 K4
                  go_wp2
                  go_ret2
                  exact P
            · have e3 : ((σ4.why : Int) != 0) = true := by rw [bne_iff_ne]; omega
              have P : OwnPost B w gx s vt (headF s σ) (ownF s σ) (.returned (.tuple #[.slice none 0 0, .slice none 0 0])) w4 := by
                have e : ownF s σ = (L, σ4) := by rw [HO.out]; unfold ownEnd; rw [if_neg (fun h => hy h.1)]
                exact ⟨_, _, rfl, by rw [e]; exact h4, K4, fun _ => ⟨rfl, rfl⟩, fun hz => absurd (by rw [e] at hz; exact hz) hy⟩
              clear HP HO hy h4 K4 hgood hrg
              go_wp2
              go_ret2
              exact P
          · have e3 : ((σ3.why : Int) != 0) = true := by rw [bne_iff_ne]; omega
            have P : OwnPost B w gx s vt (headF s σ) (ownF s σ) (.returned (.tuple #[.slice none 0 0, .slice none 0 0])) w3 := by
              have e : ownF s σ = ([], σ3) := by unfold ownF; rw [HP.out, if_pos hy]
              exact ⟨_, _, rfl, by rw [e]; exact C3.str, C3.kp, fun _ => ⟨rfl, rfl⟩, fun hz => absurd (by rw [e] at hz; exact hz) hy⟩
            clear HP HA3 HA2 hy C3
            go_wp2
            go_ret2
            exact P

end Go.Proofs.YtecddphahiadlaaDoor
