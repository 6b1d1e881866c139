import Derived.Test.YtecddphahiadlaaGreatDoorCGPut
import Derived.Test.YtecddphahiadlaaGreatDoorCSym
import Derived.Test.YtecddphahiadlaaGreatDoorCClone
import Derived.Test.YtecddphahiadlaaGreatDoorCGFit
/- The program's size: the head of a block of kind 0. -/
namespace Go.Proofs.YtecddphahiadlaaGreatDoor
open Go.RowKit
theorem wholeF_align (σ : St) : wholeF σ = alignF σ := by
 unfold wholeF alignF
 rw [Nat.mul_comm]
theorem putF_dead {σ : St} (h : σ.why ≠ 0) (c : UInt8) : putF σ c = σ := by unfold putF; rw [if_pos h]
theorem numF_ltK (s : ByteArray) (n k : Nat) (σ : St) (h : 2 ^ n = k) : (numF s n σ).1 < k := by rw [← h]; exact numF_lt s n σ
def headTail (a b : Nat × St) : Nat × St := (a.1, if b.2.why = 0 ∧ a.1 + b.1 ≠ 65535 then stopF b.2 1 else b.2)
def headMid (s : ByteArray) (a : Nat × St) : Nat × St := headTail a (numF s 16 a.2)
theorem plainHead_eq (s : ByteArray) (σ : St) : plainHead s σ = headMid s (numF s 16 (alignF σ)) := by
 simp only [plainHead, headMid, headTail]
theorem headMid_eq (s : ByteArray) (n : Nat) (σ : St) : headMid s (n, σ) = headTail (n, σ) (numF s 16 σ) := by
 simp only [headMid]
theorem headTail_dead {a b : Nat × St} (h : b.2.why ≠ 0) : headTail a b = (a.1, b.2) := by
 unfold headTail
 rw [if_neg (fun c => h c.1)]
theorem headTail_bad {a b : Nat × St} (h : b.2.why = 0) (hn : a.1 + b.1 ≠ 65535) : headTail a b = (a.1, { b.2 with why := 1 }) := by
 unfold headTail
 have e : stopF b.2 1 = { b.2 with why := 1 } := by unfold stopF; rw [if_pos h]
 rw [if_pos ⟨h, hn⟩, e]
theorem headTail_ok {a b : Nat × St} (hn : a.1 + b.1 = 65535) : headTail a b = (a.1, b.2) := by
 unfold headTail
 rw [if_neg (by omega)]
set_option maxHeartbeats 1000000 in
theorem size_any (B gx : Nat) (s : ByteArray) (σ : St) (vt : Value) (fx : Ex) (w : World) (h : Rd B w gx s σ vt fx) (hs : s.size ≤ 140737488400000) (hf : Fit s σ) (hy : σ.why = 0) :
 Calls Tryz.prog 142 #[.pointer (some ⟨gx, 0, none⟩)] w fun e w' => e = endOf (plainHead s σ).2.why (.int .i64 ((plainHead s σ).1 : Int)) ∧ Rd B w' gx s (plainHead s σ).2 vt fx ∧ Kp w w' gx vt := by
 have hp8 := hf.pos
 have HG : Hid (_) := plainHead_eq s σ
 generalize plainHead s σ = goal at HG ⊢
 have fA := hf.align
 have hyA : (alignF σ).why = 0 := hy
 go_enter Tryz.func142, Tryz.ntmps142
 go_wp2_with fail
 refine (whole_any B gx s σ vt fx _ h (by omega)).mono ?_
 rintro e w1 ⟨rfl, h1, k1⟩
 rw [wholeF_align] at h1
 clear h hf hy
 generalize alignF σ = σa at h1 HG fA hyA
 go_wp2_with fail
 refine (gnumber_any B gx 16 s σa vt fx _ h1 hs fA.pos hyA (by omega)).mono ?_
 rintro e w2 ⟨he, h2, k2⟩
 have f2 := fA.num 16
 have n1 := numF_ltK s 16 65536 σa rfl
 have K2 := k1.trans k2
 clear k1 k2 h1 fA hyA
 generalize numF s 16 σa = q at he h2 f2 n1 HG
 obtain ⟨n, σ2⟩ := q
 rw [headMid_eq] at HG
 simp only at he h2 f2 n1
 by_cases hy2 : σ2.why = 0
 ·
  rw [endOf_ok hy2] at he; subst he
  go_wp2_with fail
  refine (gnumber_any B gx 16 s σ2 vt fx _ h2 hs f2.pos hy2 (by omega)).mono ?_
  rintro e w3 ⟨he, h3, k3⟩
  have f3 := f2.num 16
  have n2 := numF_ltK s 16 65536 σ2 rfl
  have K3 := K2.trans k3
  clear K2 k3 h2 f2 hy2
  generalize numF s 16 σ2 = q at he h3 f3 n2 HG
  obtain ⟨m, σ3⟩ := q
  simp only at he h3 f3 n2
  by_cases hy3 : σ3.why = 0
  ·
   rw [endOf_ok hy3] at he; subst he
   by_cases hnm : n + m = 65535
   ·
    have e1 : ((m : Int) != 65535 - (n : Int)) = false := by rw [bne_eq_false_iff_eq]; omega
    have HGO : Hid (goal = (n, σ3)) := by show goal = _; rw [HG.out, headTail_ok hnm]
    clear HG hnm
    go_wp2
    go_ret
    rw [HGO.out]
    exact ⟨by show _ = endOf σ3.why (.int .i64 (n : Int)); rw [endOf_ok hy3]; rfl, h3, K3⟩
   ·
    have e1 : ((m : Int) != 65535 - (n : Int)) = true := by rw [bne_iff_ne]; omega
    have HGO : Hid (goal = (n, { σ3 with why := 1 })) := by show goal = _; rw [HG.out, headTail_bad hy3 hnm]
    clear HG hnm hy3
    go_wp2_with fail
    refine (wrong_any _).mono ?_
    rintro e w4 ⟨rfl, rfl⟩
    rw [endOf_bad (by omega)]
    go_wp2
    rw [HGO.out]
    exact ⟨rfl, rfl, h3.congr rfl rfl, K3⟩
  ·
   rw [endOf_bad hy3] at he; subst he
   have HGO : Hid (goal = (n, σ3)) := by
    show goal = _
    rw [HG.out, headTail_dead hy3]
   clear HG
   go_wp2
   rw [HGO.out, endOf_bad hy3]
   exact ⟨rfl, rfl, h3, K3⟩
 ·
  rw [endOf_bad hy2] at he; subst he
  have HGO : Hid (goal = (n, σ2)) := by
   show goal = _
   have e1 := numF_dead (s := s) 16 (σ := σ2) hy2
   rw [HG.out, headTail_dead (by rw [e1]; exact hy2), e1]
  clear HG
  go_wp2
  rw [HGO.out, endOf_bad hy2]
  exact ⟨rfl, rfl, h2, K2⟩
/- A symbol by how many codes there are of each length: plain reckoning, against the document's way. -/
/-- The first number behind the codes of L letters. -/
def topN (c : Nat → Nat) : Nat → Nat
 | 0 => 0
 | L + 1 => fi c (L + 1) + c (L + 1)
theorem fi_top2 (c : Nat → Nat) (L : Nat) : fi c (L + 1) = 2 * topN c L := by
 cases L with
 | zero => rfl
 | succ L => simp only [fi, topN]; omega
theorem kr_top (c : Nat → Nat) : ∀ L, L ≤ 15 → kr c L = topN c L * 2 ^ (15 - L)
 | 0, _ => by simp [kr, topN]
 |
  L + 1, h => by
  have h1 := fi_kr c L (by omega)
  rw [kr_succ, ← h1]
  simp only [topN]
  rw [Nat.add_mul]
/-- Lengths by which a code can be read letter by letter. -/
structure Tidy (z : Nat → Int) (n : Nat) : Prop where
 rng : ∀ i, i < n → 0 ≤ z i ∧ z i ≤ 15
 le : kr (cntN z n) 15 ≤ 32768
 full : ∀ L x, L ≤ 15 → x < 2 ^ L → topN (cntN z n) L ≤ x → pas (cntN z n) L < pas (cntN z n) 15 → x * 2 ^ (15 - L) < kr (cntN z n) 15
theorem topN_le {z : Nat → Int} {n : Nat} (h : Tidy z n) (L : Nat) (hL : L ≤ 15) : topN (cntN z n) L ≤ 2 ^ L := by
 have h1 := kr_top (cntN z n) L hL
 have h2 := kr_mono (cntN z n) hL
 have h3 := h.le
 have e : (32768 : Nat) = 2 ^ L * 2 ^ (15 - L) := by rw [← Nat.pow_add, show L + (15 - L) = 15 from by omega]
 have h4 : topN (cntN z n) L * 2 ^ (15 - L) ≤ 2 ^ L * 2 ^ (15 - L) := by rw [← e, ← h1]; omega
 exact Nat.le_of_mul_le_mul_right h4 (Nat.two_pow_pos _)
theorem codeN_top {z : Nat → Int} {n i : Nat} (h : Tidy z n) (hi : i < n) (h0 : 1 ≤ z i) : codeN z n i < 2 ^ (z i).toNat := by
 have hr := h.rng i hi
 obtain ⟨q, hq⟩ : ∃ q, (z i).toNat = q + 1 := ⟨(z i).toNat - 1, by omega⟩
 have h1 := topN_le h (q + 1) (by omega)
 have h2 := cntN_lt z (m := (z i).toNat) hi (by omega)
 unfold codeN
 rw [hq] at h2 ⊢
 simp only [topN] at h1
 omega
theorem bitsB_list (x m : Nat) : (bitsB x m).toList = bitsL x m := by
 rw [ByteArray.toList_eq]
 simp [bitsB]
theorem bitsL_ne {x m : Nat} (h : m ≠ 0) : bitsL x m ≠ [] := by
 intro e
 have := congrArg List.length e
 rw [bitsL_length] at this
 exact h this
theorem codeT_one {z : Nat → Int} {n i : Nat} (h0 : 1 ≤ z i) : codeT z n i = bitsB (codeN z n i) (z i).toNat := by
 unfold codeT; rw [if_neg (by omega)]
theorem codeT_none {z : Nat → Int} {n i : Nat} (h0 : z i = 0) : codeT z n i = .empty := by
 unfold codeT; rw [if_pos h0]
theorem hit_iff {z : Nat → Int} {n : Nat} (h : Tidy z n) {i L x : Nat} (hi : i < n) (hL : 1 ≤ L) (hx : x < 2 ^ L) : hitB (codeT z n i) (bitsB x L) = true ↔ (z i).toNat = L ∧ codeN z n i = x := by
 have hr := h.rng i hi
 by_cases h0 : z i = 0
 ·
  rw [codeT_none h0, h0]
  exact ⟨fun e => by simp [hitB] at e, fun e => by have := e.1; simp at this; omega⟩
 ·
  have h1 := codeN_top h hi (by omega)
  rw [codeT_one (by omega)]
  unfold hitB
  rw [bitsB_list, bitsB_list, Bool.and_eq_true, beq_iff_eq]
  refine ⟨fun e => ?_, fun e => ?_⟩
  ·
   have hl := congrArg List.length e.2
   rw [bitsL_length, bitsL_length] at hl
   refine ⟨hl, ?_⟩
   have e2 := e.2
   rw [hl] at e2 h1
   exact bitsL_inj L _ _ h1 hx e2
  ·
   rw [e.1, e.2]
   refine ⟨?_, rfl⟩
   have := bitsL_ne (x := x) (m := L) (by omega)
   cases hb : bitsL x L with
   | nil => exact absurd hb this
   | cons a l => rfl
theorem hit_empty (a : ByteArray) : hitB a .empty = false := by
 unfold hitB
 have e : (ByteArray.empty).toList = [] := by rw [ByteArray.toList_eq]; rfl
 rw [e]
 cases a.toList with
 | nil => rfl
 | cons x l => rfl
theorem hitF_none_all {c : Nat → ByteArray} {cur : ByteArray} : ∀ (r k : Nat), (∀ i, k ≤ i → i < k + r → hitB (c i) cur = false) → hitF c cur r k = none
 | 0, _, _ => rfl
 |
  r + 1, k, h => by
  rw [hitF_step (h k (Nat.le_refl _) (by omega))]
  exact hitF_none_all r (k + 1) (fun i h1 h2 => h i (by omega) (by omega))
theorem hitF_one {c : Nat → ByteArray} {cur : ByteArray} {i : Nat} (hi : hitB (c i) cur = true) : ∀ (r k : Nat), k ≤ i → i < k + r → (∀ j, k ≤ j → j < k + r → hitB (c j) cur = true → j = i) → hitF c cur r k = some i
 | 0, _, h1, h2, _ => by omega
 |
  r + 1, k, h1, h2, hu => by
  by_cases e : k = i
  · subst e; exact hitF_yes hi
  ·
   have hn : hitB (c k) cur = false := by
    rw [Bool.eq_false_iff]
    intro hh
    exact e (hu k (Nat.le_refl _) (by omega) hh)
   rw [hitF_step hn]
   exact hitF_one hi r (k + 1) (by omega) (by omega) (fun j a b => hu j (by omega) (by omega))
theorem cntN_inj {z : Nat → Int} {i k l : Nat} (hi : z i = (l : Int)) (hk : z k = (l : Int)) (h : cntN z i l = cntN z k l) : i = k := by
 rcases Nat.lt_trichotomy i k with e | e | e
 · have := cntN_lt z (m := l) e hi; omega
 · exact e
 · have := cntN_lt z (m := l) e hk; omega
theorem hitF_in {z : Nat → Int} {n : Nat} (h : Tidy z n) {L x r : Nat} (hL : 1 ≤ L) (hx : x < 2 ^ L) (hr : r < cntN z n L) (hxr : x = fi (cntN z n) L + r) :
 ∃ i, i < n ∧ z i = (L : Int) ∧ cntN z i L = r ∧ hitF (codeT z n) (bitsB x L) n 0 = some i := by
 obtain ⟨i, hi, hzi, hci⟩ := cntN_at z L r n hr
 refine ⟨i, hi, hzi, hci, ?_⟩
 have e : (z i).toNat = L := by omega
 have hc : codeN z n i = x := by unfold codeN; rw [e, hci, hxr]
 refine hitF_one ((hit_iff h hi hL hx).2 ⟨e, hc⟩) n 0 (by omega) (by omega) (fun j _ hj hh => ?_)
 obtain ⟨a, b⟩ := (hit_iff h (by omega) hL hx).1 hh
 have hzj := h.rng j (by omega)
 unfold codeN at b hc
 rw [a] at b
 rw [e] at hc
 exact cntN_inj (l := L) (by omega) hzi (by omega)
theorem hitF_out {z : Nat → Int} {n : Nat} (h : Tidy z n) {L x : Nat} (hL : 1 ≤ L) (hx : x < 2 ^ L) (hxr : fi (cntN z n) L + cntN z n L ≤ x) : hitF (codeT z n) (bitsB x L) n 0 = none := by
 refine hitF_none_all n 0 (fun i _ hi => ?_)
 rw [Bool.eq_false_iff]
 intro hh
 obtain ⟨a, b⟩ := (hit_iff h (by omega) hL hx).1 hh
 have hzi := h.rng i (by omega)
 have := cntN_lt z (m := L) (show i < n by omega) (by omega)
 unfold codeN at b
 rw [a] at b
 omega
theorem some_iff {c : Nat → ByteArray} {cur : ByteArray} : ∀ (n : Nat), someB c cur n = true ↔ ∃ i, i < n ∧ longB (c i) cur = true
 | 0 => ⟨fun h => by simp [someB] at h, fun ⟨i, h, _⟩ => by omega⟩
 |
  n + 1 => by
  simp only [someB, Bool.or_eq_true]
  rw [some_iff n]
  refine ⟨fun h => ?_, fun ⟨i, hi, hl⟩ => ?_⟩
  ·
   rcases h with ⟨i, hi, hl⟩ | h
   · exact ⟨i, by omega, hl⟩
   · exact ⟨n, by omega, h⟩
  ·
   by_cases e : i = n
   · subst e; exact Or.inr hl
   · exact Or.inl ⟨i, by omega, hl⟩
theorem extract_list (x m L : Nat) : ((bitsB x m).extract 0 L).toList = (bitsL x m).take L := by
 rw [ByteArray.toList_eq, ByteArray.data_extract, Array.toList_extract]
 simp [bitsB]
/-- Whether a longer code begins so hangs on how many codes are still to come. -/
theorem some_pas {z : Nat → Int} {n : Nat} (h : Tidy z n) {L x : Nat} (hL : L ≤ 15) (hx : x < 2 ^ L) (ht : topN (cntN z n) L ≤ x) :
 someB (codeT z n) (bitsB x L) n = decide (pas (cntN z n) L < pas (cntN z n) 15) := by
 rw [Bool.eq_iff_iff, some_iff, decide_eq_true_iff]
 refine ⟨fun ⟨i, hi, hl⟩ => ?_, fun hp => ?_⟩
 ·
  have hr := h.rng i hi
  simp only [longB, Bool.and_eq_true, decide_eq_true_eq, bitsB_size] at hl
  have h0 : 1 ≤ z i := by
   by_cases e : z i = 0
   ·
    rw [codeT_none e] at hl
    have : (ByteArray.empty).size = 0 := rfl
    omega
   · omega
  have hl1 := hl.1
  rw [codeT_one h0, bitsB_size] at hl1
  have h1 := plc_lt hi h0
  have h2 := pas_mono (cntN z n) (show (z i).toNat ≤ 15 by omega)
  have h3 := pas_mono (cntN z n) (show L ≤ (z i).toNat - 1 by omega)
  unfold plc at h1
  omega
 ·
  have hN := h.full L x hL hx ht hp
  obtain ⟨q, hq1, hq2, hq3⟩ := kr_find (cntN z n) (x * 2 ^ (15 - L)) 15 hN
  have hkL := kr_top (cntN z n) L hL
  have hqL : L ≤ q := by
   by_cases c : L ≤ q
   · exact c
   ·
    have h1 := kr_mono (cntN z n) (show q + 1 ≤ L by omega)
    have h2 := Nat.mul_le_mul_right (2 ^ (15 - L)) ht
    omega
  have hk := fi_kr (cntN z n) q hq1
  have hs := kr_succ (cntN z n) q
  have hP := Nat.two_pow_pos (15 - (q + 1))
  have hr : (x * 2 ^ (15 - L) - kr (cntN z n) q) / 2 ^ (15 - (q + 1)) < cntN z n (q + 1) := by
   rw [Nat.div_lt_iff_lt_mul hP]; omega
  obtain ⟨i, hi, hzi, hci⟩ := cntN_at z (q + 1) _ n hr
  have e : (z i).toNat = q + 1 := by omega
  have hpi : codeN z n i = x * 2 ^ (15 - L) / 2 ^ (15 - (q + 1)) := by
   unfold codeN
   rw [e, hci]
   have e2 : x * 2 ^ (15 - L) = (x * 2 ^ (15 - L) - kr (cntN z n) q) + 2 ^ (15 - (q + 1)) * fi (cntN z n) (q + 1) := by
    rw [Nat.mul_comm _ (fi _ _), hk]; omega
   have e3 : x * 2 ^ (15 - L) / 2 ^ (15 - (q + 1)) = (x * 2 ^ (15 - L) - kr (cntN z n) q) / 2 ^ (15 - (q + 1)) + fi (cntN z n) (q + 1) := by
    conv => lhs; rw [e2]
    rw [Nat.add_mul_div_left _ _ hP]
   omega
  refine ⟨i, hi, ?_⟩
  unfold longB
  rw [codeT_one (by omega), bitsB_size, bitsB_size, e, extract_list, bitsB_list, bitsL_take _ _ _ (by omega), Bool.and_eq_true, decide_eq_true_iff, beq_iff_eq]
  refine ⟨by omega, ?_⟩
  rw [hpi, Nat.div_div_eq_div_mul, ← Nat.pow_add, show 15 - (q + 1) + (q + 1 - L) = 15 - L from by omega, Nat.mul_div_cancel _ (Nat.two_pow_pos _)]
theorem letB_bits (x L b : Nat) (hb : b < 2) : letB (bitsB x L) b = bitsB (2 * x + b) (L + 1) := by
 unfold letB
 apply ByteArray.ext
 rw [ByteArray.data_append]
 have e1 : ((⟨#[48, 49]⟩ : ByteArray).extract b (b + 1)).data = #[UInt8.ofNat (48 + b)] := by
  rcases (by omega : b = 0 ∨ b = 1) with e | e
  · subst e; decide
  · subst e; decide
 rw [e1]
 show (bitsL x L).toArray ++ _ = (bitsL (2 * x + b) (L + 1)).toArray
 rw [bitsL_succ, show (2 * x + b) / 2 = x from by omega, show (2 * x + b) % 2 = b from by omega]
 simp
/-- L letters are read, and they are no code. -/
structure SymSt (z : Nat → Int) (n L x : Nat) : Prop where
 le : L ≤ 15
 lt : x < 2 ^ L
 top : topN (cntN z n) L ≤ x
 none : hitF (codeT z n) (bitsB x L) n 0 = none
theorem SymSt.start (z : Nat → Int) (n : Nat) : SymSt z n 0 0 := by
 refine ⟨by omega, by decide, by simp [topN], ?_⟩
 have e : bitsB 0 0 = .empty := rfl
 rw [e]
 exact hitF_none_all n 0 (fun i _ _ => hit_empty _)
theorem SymSt.more {z : Nat → Int} {n L x : Nat} (h : SymSt z n L x) (hp : pas (cntN z n) L < pas (cntN z n) 15) : L < 15 := by
 have h1 := h.le
 by_cases e : L = 15
 · subst e; omega
 · omega
/-- The end of the codes. -/
theorem SymSt.stop {z : Nat → Int} {n L x : Nat} (ht : Tidy z n) (h : SymSt z n L x) (hp : ¬ pas (cntN z n) L < pas (cntN z n) 15) (s : ByteArray) (f : Nat) (σ : St) : symGo s (codeT z n) n (f + 1) (bitsB x L) σ = (-1, stopF σ 1) := by
 simp only [symGo, h.none]
 rw [some_pas ht h.le h.lt h.top, if_neg (by simpa using hp)]
/-- One letter more. -/
theorem SymSt.go {z : Nat → Int} {n L x : Nat} (ht : Tidy z n) (h : SymSt z n L x) (hp : pas (cntN z n) L < pas (cntN z n) 15) (s : ByteArray) (f : Nat) (σ : St) : symGo s (codeT z n) n (f + 1) (bitsB x L) σ = if (bitF s σ).2.why = 0 then symGo s (codeT z n) n f (bitsB (2 * x + (bitF s σ).1) (L + 1)) (bitF s σ).2 else (-1, (bitF s σ).2) := by
 simp only [symGo, h.none]
 rw [some_pas ht h.le h.lt h.top, if_pos (by simpa using hp), letB_bits _ _ _ (bitF_lt s σ)]
theorem SymSt.next {z : Nat → Int} {n L x b : Nat} (ht : Tidy z n) (h : SymSt z n L x) (hp : pas (cntN z n) L < pas (cntN z n) 15) (hb : b < 2) (hx : fi (cntN z n) (L + 1) + cntN z n (L + 1) ≤ 2 * x + b) : SymSt z n (L + 1) (2 * x + b) := by
 have hL := h.more hp
 have hlt : 2 * x + b < 2 ^ (L + 1) := by rw [Nat.pow_succ]; have := h.lt; omega
 exact ⟨by omega, hlt, hx, hitF_out ht (by omega) hlt hx⟩
theorem SymSt.found {z : Nat → Int} {n L x b : Nat} (ht : Tidy z n) (h : SymSt z n L x) (hb : b < 2) {sy : Nat → Nat} (hsy : SyOk z n sy) (hx : 2 * x + b < fi (cntN z n) (L + 1) + cntN z n (L + 1)) (s : ByteArray) (f : Nat) (σ : St) :
 symGo s (codeT z n) n (f + 1) (bitsB (2 * x + b) (L + 1)) σ = (((sy (pas (cntN z n) L + (2 * x + b - fi (cntN z n) (L + 1))) : Nat) : Int), σ) ∧ sy (pas (cntN z n) L + (2 * x + b - fi (cntN z n) (L + 1))) < n ∧ pas (cntN z n) L + (2 * x + b - fi (cntN z n) (L + 1)) < pas (cntN z n) (L + 1) := by
 have hlt : 2 * x + b < 2 ^ (L + 1) := by rw [Nat.pow_succ]; have := h.lt; omega
 have h1 := h.top
 have h2 := fi_top2 (cntN z n) L
 obtain ⟨i, hi, hzi, hci, hh⟩ := hitF_in ht (L := L + 1) (x := 2 * x + b) (r := 2 * x + b - fi (cntN z n) (L + 1)) (by omega) hlt (by omega) (by omega)
 have e : plc z n i = pas (cntN z n) L + (2 * x + b - fi (cntN z n) (L + 1)) := by
  unfold plc
  have : (z i).toNat = L + 1 := by omega
  rw [this, hci, Nat.add_sub_cancel]
 have h3 := hsy i hi (by omega)
 rw [e] at h3
 refine ⟨?_, by rw [h3]; exact hi, by rw [pas_succ]; omega⟩
 simp only [symGo, hh, h3]
/- The program's Symbol: a symbol by a set, letter by letter. -/
theorem setA_at (c : Nat → Nat) (v : Value) : ∀ i, i < 17 → (setA c v)[i]? = some (if i < 16 then .int .i64 (c i : Nat) else v)
 | 0, _ => rfl
 | 1, _ => rfl
 | 2, _ => rfl
 | 3, _ => rfl
 | 4, _ => rfl
 | 5, _ => rfl
 | 6, _ => rfl
 | 7, _ => rfl
 | 8, _ => rfl
 | 9, _ => rfl
 | 10, _ => rfl
 | 11, _ => rfl
 | 12, _ => rfl
 | 13, _ => rfl
 | 14, _ => rfl
 | 15, _ => rfl
 | 16, _ => rfl
 | n + 17, h => absurd h (by omega)
theorem setA_row (c : Nat → Nat) (v : Value) (w : World) : (w.alloc (.cells (setA c v) 185)).rowIs w.heap.size 185 17 (fun i => if i < 16 then .int .i64 (c i : Nat) else v) :=
 World.rowIs_alloc w (setA c v) 185 _ (fun i hi => setA_at c v i hi)
theorem or_bit (x b : Nat) (hx : x < 32768) (hb : b < 2) : bits BinOp.or IntKind.i64 ((x : Int) * 2) (b : Int) = ((2 * x + b : Nat) : Int) := by
 have e : ((x : Int) * 2) = ((2 * x : Nat) : Int) := by omega
 have h1 : (BitVec.ofInt 64 ((2 * x : Nat) : Int)).toNat = 2 * x := by
  rw [BitVec.ofInt_natCast, BitVec.toNat_ofNat]; exact Nat.mod_eq_of_lt (by omega)
 have h2 : (BitVec.ofInt 64 (b : Int)).toNat = b := by
  rw [BitVec.ofInt_natCast, BitVec.toNat_ofNat]; exact Nat.mod_eq_of_lt (by omega)
 rw [e]
 show IntKind.i64.wrap ((BitVec.ofInt 64 ((2 * x : Nat) : Int) ||| BitVec.ofInt 64 (b : Int)).toNat : Int) = _
 have h3 : 2 * x ||| b = 2 * x + b := (Nat.two_pow_add_eq_or_of_lt (i := 1) hb x).symm
 rw [BitVec.toNat_or, h1, h2, h3, IntKind.wrap_i64]
 omega
/-- A set in memory: what its value is. -/
structure SetIn (w : World) (z : Nat → Int) (n g : Nat) (sy : Nat → Nat) : Prop where
 tidy : Tidy z n
 many : n ≤ 288
 row : w.rowIs g 3 (pas (cntN z n) 15) (fun p => .int .i64 (sy p : Nat))
 ok : SyOk z n sy
def setV (z : Nat → Int) (n g : Nat) : Value := .agg (setA (cntN z n) (.slice (some ⟨g, 0, none⟩) (pas (cntN z n) 15) (pas (cntN z n) 15)))
theorem SetIn.kp {w w' : World} {z : Nat → Int} {n g gx : Nat} {sy : Nat → Nat} {vt : Value} (h : SetIn w z n g sy) (k : Kp w w' gx vt) (hx : g ≠ gx) (hv : vt.ownBlock ≠ some g) : SetIn w' z n g sy :=
 ⟨h.tidy, h.many, h.row.of_block (k.block g h.row.lt hx hv), h.ok⟩
theorem Kp.alloc (w : World) (o : Obj) (gx : Nat) (vt : Value) : Kp w (w.alloc o) gx vt := ⟨rfl, rfl, rfl, by simp, fun b hb _ _ => Below.heap_alloc w o b hb⟩
theorem Rd.alloc {B : Nat} {w : World} {gx : Nat} {s : ByteArray} {σ : St} {vt : Value} {fx : Ex} (h : Rd B w gx s σ vt fx) (o : Obj) : Rd B (w.alloc o) gx s σ vt fx := ⟨h.le, h.big, h.row.alloc o, h.own.alloc o, h.ne⟩
/-- What Symbol answers. -/
def SymPost (B : Nat) (w : World) (gx : Nat) (s : ByteArray) (vt : Value) (fx : Ex) (goal : Int × St) (e : Ending) (w' : World) : Prop :=
 ∃ σ', Rd B w' gx s σ' vt fx ∧ Kp w w' gx vt ∧ ((∃ k : Nat, e = .returned (.tuple #[.int .i64 (k : Nat), .bool true]) ∧ goal = ((k : Int), σ') ∧ σ'.why = 0) ∨
  (e = .returned (.tuple #[.int .i64 0, .bool false]) ∧ goal = (-1, stopF σ' 1) ∧ σ'.why = 0) ∨ (σ'.why ≠ 0 ∧ e = endOf σ'.why .nilFunc ∧ goal = (-1, σ')))
/-- The state of the loop: L letters are read. -/
structure SyR (B : Nat) (w wr : World) (gx : Nat) (s : ByteArray) (vt : Value) (fx : Ex) (z : Nat → Int) (n L x f : Nat) (σ : St) (goal : Int × St) : Prop where
 rd : Rd B wr gx s σ vt fx
 kp : Kp w wr gx vt
 fit : Fit s σ
 why : σ.why = 0
 st : SymSt z n L x
 fuel : L + f = 16
 eq : symGo s (codeT z n) n (f + 1) (bitsB x L) σ = goal
set_option maxRecDepth 4000 in
set_option maxHeartbeats 1000000 in
theorem setSymbol_any (B gx g n : Nat) (s : ByteArray) (σ : St) (vt : Value) (fx : Ex) (z : Nat → Int) (sy : Nat → Nat) (w : World) (h : Rd B w gx s σ vt fx) (hs : s.size ≤ 140737488400000) (hf : Fit s σ) (hy : σ.why = 0)
 (hset : SetIn w z n g sy) (hgx : g ≠ gx) (hvg : vt.ownBlock ≠ some g) :
 Calls Tryz.prog 137 #[setV z n g, .func (.func 136) #[.pointer (some ⟨gx, 0, none⟩)] #[]] w (SymPost B w gx s vt fx (symF s (codeT z n) n σ)) := by
 have hrow := setA_row (cntN z n) (.slice (some ⟨g, 0, none⟩) (pas (cntN z n) 15) (pas (cntN z n) 15)) w
 have hT := pas_all z n hset.tidy.rng
 have hmany := hset.many
 have hK0 : Kp w (w.alloc (.cells (setA (cntN z n) (.slice (some ⟨g, 0, none⟩) (pas (cntN z n) 15) (pas (cntN z n) 15))) 185)) gx vt := Kp.alloc w _ gx vt
 have hgl := h.row.lt
 have hgv : vt.ownBlock ≠ some w.heap.size := fun e => by have := h.own.lt _ e; omega
 have R0 : SyR B (w.alloc (.cells (setA (cntN z n) (.slice (some ⟨g, 0, none⟩) (pas (cntN z n) 15) (pas (cntN z n) 15))) 185)) (w.alloc (.cells (setA (cntN z n) (.slice (some ⟨g, 0, none⟩) (pas (cntN z n) 15) (pas (cntN z n) 15))) 185)) gx s vt fx z n 0 0 16 σ (symF s (codeT z n) n σ) :=
  ⟨h.alloc _, Kp.refl _ _ _, hf, hy, SymSt.start z n, rfl, rfl⟩
 have hset1 := hset.kp hK0 hgx hvg
 unfold setV
 generalize symF s (codeT z n) n σ = goal at R0 ⊢
 clear h hf hy
 go_enter Tryz.func137, Tryz.ntmps137
 go_wp2_with fail
 generalize w.alloc (.cells (setA (cntN z n) (.slice (some ⟨g, 0, none⟩) (pas (cntN z n) 15) (pas (cntN z n) 15))) 185) = w1 at hrow hK0 R0 hset1 ⊢
 obtain ⟨gs, hgs⟩ : ∃ gs, gs = w.heap.size := ⟨_, rfl⟩
 rw [← hgs] at hrow hgv ⊢
 have hgsx : gs ≠ gx := by omega
 clear hgl hgs hset
 go_loopw [6, 7, 8, 9] (fun code first passed length wr => ∃ (L x f : Nat) (σ1 : St), code = .int .i64 (x : Nat) ∧ first = .int .i64 (topN (cntN z n) L : Nat) ∧ passed = .int .i64 (pas (cntN z n) L : Nat) ∧ length = .int .i64 (L + 1 : Nat) ∧ SyR B w1 wr gx s vt fx z n L x f σ1 goal) (fun _ _ _ length _ => 20 - (intOf length).toNat)
 case atStart => exact ⟨0, 0, 16, σ, rfl, rfl, rfl, rfl, R0⟩
 case round =>
  obtain ⟨L, x, f, σ1, rfl, rfl, rfl, rfl, hrel⟩ := hrel
  clear R0
  have hrw := hrow.of_block (hrel.kp.block gs hrow.lt hgsx hgv)
  have hst1 := hset1.kp hrel.kp hgx hvg
  have c16 := hrw.cell (i := 16) (by omega)
  rw [if_neg (by omega)] at c16
  have hPL := pas_mono (cntN z n) hrel.st.le
  by_cases hp : pas (cntN z n) L < pas (cntN z n) 15
  ·
   have hL15 := hrel.st.more hp
   have cL := hrw.cell (i := L + 1) (by omega)
   rw [if_pos (by omega)] at cL
   have hxlt := hrel.st.lt
   have hx15 : 2 ^ L ≤ 2 ^ 14 := Nat.pow_le_pow_right (by omega) (by omega)
   have h14 : (2 : Nat) ^ 14 = 16384 := rfl
   have hxb : x < 16384 := by omega
   have htop := hrel.st.top
   have htb : topN (cntN z n) L < 16384 := by omega
   have hfi := fi_top2 (cntN z n) L
   have hcc : cntN z n (L + 1) ≤ 288 := Nat.le_trans (cntN_le z n _) hmany
   have hsym := hrel.st
   have hGO := hrel.eq
   rw [hsym.go hst1.tidy hp] at hGO
   have hfu := hrel.fuel
   obtain ⟨f', rfl⟩ : ∃ f', f = f' + 1 := ⟨f - 1, by omega⟩
   have HGO : Hid (_) := hGO
   have HFI : Hid (_) := hfi
   have hpI : (pas (cntN z n) L : Int) < (pas (cntN z n) 15 : Int) := by omega
   clear hGO hfi hxlt hx15 h14
   go_wp2_with fail
   refine (gbit_any B gx s σ1 vt fx _ hrel.rd hs hrel.fit.pos hrel.why).mono ?_
   rintro e w2 ⟨he, h2, k2⟩
   have hb2 := bitF_lt s σ1
   have f2 := hrel.fit.bit
   have K2 := hrel.kp.trans k2
   have hrw2 := hrow.of_block (K2.block gs hrow.lt hgsx hgv)
   have hst2 := hset1.kp K2 hgx hvg
   have c16 := hrw2.cell (i := 16) (by omega)
   rw [if_neg (by omega)] at c16
   have cL := hrw2.cell (i := L + 1) (by omega)
   rw [if_pos (by omega)] at cL
   clear hrel k2 hrw
   generalize bitF s σ1 = bb at he h2 hb2 f2 HGO
   obtain ⟨b, σ2⟩ := bb
   simp only at he h2 hb2 f2 HGO
   by_cases hy2 : σ2.why = 0
   ·
    rw [endOf_ok hy2] at he; subst he
    rw [if_pos hy2] at HGO
    obtain ⟨X, hX⟩ : ∃ X, X = 2 * x + b := ⟨_, rfl⟩
    have hO := or_bit x b (by omega) hb2
    rw [← hX] at hO HGO
    obtain ⟨C, hC⟩ : ∃ C, C = cntN z n (L + 1) := ⟨_, rfl⟩
    obtain ⟨P0, hP0⟩ : ∃ P0, P0 = pas (cntN z n) L := ⟨_, rfl⟩
    obtain ⟨F0, hF0⟩ : ∃ F0, F0 = topN (cntN z n) L := ⟨_, rfl⟩
    obtain ⟨T, hTT⟩ : ∃ T, T = pas (cntN z n) 15 := ⟨_, rfl⟩
    have hFF : fi (cntN z n) (L + 1) = 2 * F0 := by rw [hF0]; exact HFI.out
    rw [← hC] at cL hcc
    rw [← hTT] at c16 hpI hPL hT
    rw [← hP0] at hpI hPL ⊢
    rw [← hF0] at htb htop ⊢
    have hXb : X < 32768 := by omega
    have hP0b : P0 ≤ 288 := by omega
    by_cases hfound : X < fi (cntN z n) (L + 1) + cntN z n (L + 1)
    ·
     obtain ⟨q1, q2, q3⟩ := hsym.found hst2.tidy hb2 hst2.ok (by rw [← hX]; exact hfound) s f' σ2
     rw [← hX, hFF, ← hP0] at q1 q2 q3
     obtain ⟨p, hpp⟩ : ∃ p, p = P0 + (X - 2 * F0) := ⟨_, rfl⟩
     rw [← hpp] at q1 q2 q3
     rw [pas_succ, ← hP0, ← hC] at q3
     have hTs := pas_mono (cntN z n) (show L + 1 ≤ 15 by omega)
     rw [pas_succ, ← hP0, ← hC, ← hTT] at hTs
     have cp := hst2.row.cell (i := p) (by omega)
     have hpe : (P0 : Int) + (X : Int) - (F0 : Int) * 2 = (p : Int) := by omega
     have hpT : (p : Int) < (T : Int) := by omega
     have d1 : decide ((X : Int) - (F0 : Int) * 2 < (C : Int)) = true := by rw [decide_eq_true_iff]; omega
     have P : SymPost B w gx s vt fx goal (.returned (.tuple #[.int .i64 (sy p : Nat), .bool true])) w2 := ⟨σ2, h2, hK0.trans K2, Or.inl ⟨sy p, rfl, by rw [← HGO.out, q1], hy2⟩⟩
     clear h2 K2 hst2 hrw2 q1 q2 q3 hsym HGO hset1 hTs HFI hX hC hP0 hF0 hTT hpp hFF hfound hst1 hp
     go_wp2
     go_ret2
     exact P
    ·
     have R : SyR B w1 w2 gx s vt fx z n (L + 1) X f' σ2 goal := ⟨h2, K2, f2, hy2, by rw [hX]; exact hsym.next hst2.tidy hp hb2 (by rw [← hX]; omega), by omega, HGO.out⟩
     have d1 : decide ((X : Int) - (F0 : Int) * 2 < (C : Int)) = false := by rw [decide_eq_false_iff_not]; omega
     have HF1 : Hid (topN (cntN z n) (L + 1) = 2 * F0 + C) := by show _ = _; simp only [topN]; rw [hFF, hC]
     have HP1 : Hid (pas (cntN z n) (L + 1) = P0 + C) := by show _ = _; rw [pas_succ, hP0, hC]
     clear h2 K2 hst2 hrw2 hsym HGO hset1 HFI hX hC hP0 hF0 hTT hFF hfound hst1 hp
     go_wp2
     go_roundw
     case rel => exact ⟨L + 1, X, f', σ2, rfl, by rw [HF1.out]; go_num, by rw [HP1.out]; go_num, by go_num, R⟩
     case measure => simp [intOf]; omega
   ·
    rw [endOf_bad hy2] at he; subst he
    rw [if_neg hy2] at HGO
    have P : SymPost B w gx s vt fx goal (endOf σ2.why .nilFunc) w2 := ⟨σ2, h2, hK0.trans K2, Or.inr (Or.inr ⟨hy2, rfl, HGO.out.symm⟩)⟩
    rw [endOf_bad hy2] at P
    clear h2 K2 hst2 hrw2 hsym HGO hset1 HFI hst1 hp
    go_wp2
    exact ⟨rfl, P⟩
  ·
   have HGO : Hid (goal = (-1, stopF σ1 1)) := by show _ = _; rw [← hrel.eq, hrel.st.stop hst1.tidy hp]
   have P : SymPost B w gx s vt fx goal (.returned (.tuple #[.int .i64 0, .bool false])) wr := ⟨σ1, hrel.rd, hK0.trans hrel.kp, Or.inr (Or.inl ⟨rfl, HGO.out, hrel.why⟩)⟩
   clear hrel hrw hst1
   go_wp2
   go_ret2
   exact P
/- The program's symbol. -/
set_option maxRecDepth 4000 in
set_option maxHeartbeats 1000000 in
theorem gsymbol_any (B gx g n : Nat) (s : ByteArray) (σ : St) (vt : Value) (fx : Ex) (z : Nat → Int) (sy : Nat → Nat) (w : World) (h : Rd B w gx s σ vt fx) (hs : s.size ≤ 140737488400000) (hf : Fit s σ) (hy : σ.why = 0)
 (hset : SetIn w z n g sy) (hgx : g ≠ gx) (hvg : vt.ownBlock ≠ some g) :
 Calls Tryz.prog 124 #[.pointer (some ⟨gx, 0, none⟩), setV z n g] w fun e w' => e = endOf (symF s (codeT z n) n σ).2.why (.int .i64 (symF s (codeT z n) n σ).1) ∧ Rd B w' gx s (symF s (codeT z n) n σ).2 vt fx ∧ Kp w w' gx vt := by
 have hmf : ∀ (fn : Fn) (first cap : Array Value) (w : World), (Instr.makeFunc fn first cap).run Tryz.prog w = .ok (.func fn first cap) w := fun _ _ _ _ => rfl
 have hnew : (w.alloc (.cells (setA (cntN z n) (.slice (some ⟨g, 0, none⟩) (pas (cntN z n) 15) (pas (cntN z n) 15))) 185)).drew.heap[w.heap.size]? = _ := heap_alloc_last w (.cells (setA (cntN z n) (.slice (some ⟨g, 0, none⟩) (pas (cntN z n) 15) (pas (cntN z n) 15))) 185)
 have hd := (h.alloc (.cells (setA (cntN z n) (.slice (some ⟨g, 0, none⟩) (pas (cntN z n) 15) (pas (cntN z n) 15))) 185)).drew
 have hK1 : Kp w (w.alloc (.cells (setA (cntN z n) (.slice (some ⟨g, 0, none⟩) (pas (cntN z n) 15) (pas (cntN z n) 15))) 185)).drew gx vt := (Kp.alloc w _ gx vt).drewN 1
 have hset1 := hset.kp hK1 hgx hvg
 unfold setV
 go_enter Tryz.func124, Tryz.ntmps124
 go_wp2_with fail
 refine wp_region_any (by kernel_rfl) ?_
 change wpAny _ _ _ _ _ _ _ (World.drew _)
 refine wpAny_take (i := 1) (v := .pointer (some ⟨gx, 0, none⟩)) rfl (by kernel_rfl) (by kernel_rfl) (by kernel_rfl) (fun _ _ _ h => h) (Or.inl ⟨by rfl, ?_⟩) ?_
 · intro w; go_simp
 refine wpAny_take (i := 2) (v := .pointer (some ⟨gx, 0, none⟩)) rfl (by kernel_rfl) (by kernel_rfl) (by kernel_rfl) (fun _ _ _ h => h) (Or.inl ⟨by rfl, ?_⟩) ?_
 · intro w; go_simp
 refine wpAny_take (i := 3) (v := .pointer (some ⟨gx, 0, none⟩)) rfl (by kernel_rfl) (by kernel_rfl) (by kernel_rfl) (fun _ _ _ h => h) (Or.inl ⟨by rfl, ?_⟩) ?_
 · intro w; go_simp
 refine wpAny_ready (rs := [0, 4]) (by kernel_rfl) (by simp) ?_
 refine AllReady.cons rfl (fun K hK => ?_) (AllReady.cons rfl (fun K hK => ?_) AllReady.nil)
 ·
  refine step_load_row rfl 185 (.tmp 3) rfl w.heap.size (by simp [Act.eval, Act.put]) 185 _ (0, 0) _ hnew Tryz.underlying185 rfl Tryz.size185 ?_
  go_simp
  refine hK _ _ ?_
  clear hK K
  refine wpAny_ready (rs := [4]) (by kernel_rfl) (by simp) ?_
  refine AllReady.cons rfl (fun K hK => ?_) AllReady.nil
  go_simp
  refine hK _ _ ?_
  clear hK K
  refine wpAny_ready (rs := [5]) (by kernel_rfl) (by simp) ?_
  refine AllReady.cons rfl (fun K hK => ?_) AllReady.nil
  go_simp
  go_at_call 137
  refine (setSymbol_any B gx g n s σ vt fx z sy _ hd hs hf hy hset1 hgx hvg).mono ?_
  rintro e w2 ⟨σ2, h2, k2, hcase⟩
  have K2 := hK1.trans k2
  clear k2
  rcases hcase with ⟨k, rfl, hg, hy2⟩ | ⟨rfl, hg, hy2⟩ | ⟨hy2, he, hg⟩
  ·
   go_simp
   first | (refine hK _ _ ?_) | skip
   clear hK K
   refine wpAny_take (i := 6) (v := .tuple #[.int .i64 (k : Nat), .bool true]) rfl (by kernel_rfl) (by kernel_rfl) (by kernel_rfl) (fun _ _ _ h => h) (Or.inl ⟨by rfl, ?_⟩) ?_
   · intro w; go_simp
   refine wpAny_take (i := 7) (v := .int .i64 (k : Nat)) rfl (by kernel_rfl) (by kernel_rfl) (by kernel_rfl) (fun _ _ _ h => h) (Or.inl ⟨by rfl, ?_⟩) ?_
   · intro w; go_simp
   refine wpAny_take (i := 8) (v := .bool true) rfl (by kernel_rfl) (by kernel_rfl) (by kernel_rfl) (fun _ _ _ h => h) (Or.inl ⟨by rfl, ?_⟩) ?_
   · intro w; go_simp
   refine wpAny_ready (rs := [9]) (by kernel_rfl) (by simp) ?_
   refine AllReady.cons rfl (fun K hK => ?_) AllReady.nil
   go_simp
   refine hK _ _ ?_
   clear hK K
   refine wpAny_ready (rs := [10]) (by kernel_rfl) (by simp) ?_
   refine AllReady.cons rfl (fun K hK => ?_) AllReady.nil
   go_simp
   refine hK _ _ ?_
   clear hK K
   refine wpAny_done (by kernel_rfl) ?_ _
   go_wp2
   go_ret
   rw [hg]
   exact ⟨by rw [endOf_ok hy2]; rfl, h2, K2⟩
  ·
   go_simp
   first | (refine hK _ _ ?_) | skip
   clear hK K
   refine wpAny_take (i := 6) (v := .tuple #[.int .i64 0, .bool false]) rfl (by kernel_rfl) (by kernel_rfl) (by kernel_rfl) (fun _ _ _ h => h) (Or.inl ⟨by rfl, ?_⟩) ?_
   · intro w; go_simp
   refine wpAny_take (i := 7) (v := .int .i64 0) rfl (by kernel_rfl) (by kernel_rfl) (by kernel_rfl) (fun _ _ _ h => h) (Or.inl ⟨by rfl, ?_⟩) ?_
   · intro w; go_simp
   refine wpAny_take (i := 8) (v := .bool false) rfl (by kernel_rfl) (by kernel_rfl) (by kernel_rfl) (fun _ _ _ h => h) (Or.inl ⟨by rfl, ?_⟩) ?_
   · intro w; go_simp
   refine wpAny_ready (rs := [9]) (by kernel_rfl) (by simp) ?_
   refine AllReady.cons rfl (fun K hK => ?_) AllReady.nil
   go_simp
   refine hK _ _ ?_
   clear hK K
   refine wpAny_ready (rs := [10]) (by kernel_rfl) (by simp) ?_
   refine AllReady.cons rfl (fun K hK => ?_) AllReady.nil
   go_simp
   refine hK _ _ ?_
   clear hK K
   refine wpAny_done (by kernel_rfl) ?_ _
   have hst : stopF σ2 1 = { σ2 with why := 1 } := by unfold stopF; rw [if_pos hy2]
   go_wp2_with fail
   refine (wrong_any _).mono ?_
   rintro e w4 ⟨rfl, rfl⟩
   rw [endOf_bad (by omega)]
   go_wp2
   rw [hg, hst]
   exact ⟨rfl, rfl, h2.congr rfl rfl, K2⟩
  ·
   rw [endOf_bad hy2] at he; subst he
   clear hK
   go_wp2
   rw [hg, endOf_bad hy2]
   exact ⟨rfl, rfl, h2, K2⟩
 ·
  go_simp
  refine hK _ _ ?_
  clear hK K
  refine wpAny_ready (rs := [0]) (by kernel_rfl) (by simp) ?_
  refine AllReady.cons rfl (fun K hK => ?_) AllReady.nil
  refine step_load_row rfl 185 (.tmp 3) rfl w.heap.size (by simp [Act.eval]) 185 _ (0, 0) _ hnew Tryz.underlying185 rfl Tryz.size185 ?_
  go_simp
  refine hK _ _ ?_
  clear hK K
  refine wpAny_ready (rs := [5]) (by kernel_rfl) (by simp) ?_
  refine AllReady.cons rfl (fun K hK => ?_) AllReady.nil
  go_simp
  go_at_call 137
  refine (setSymbol_any B gx g n s σ vt fx z sy _ hd hs hf hy hset1 hgx hvg).mono ?_
  rintro e w2 ⟨σ2, h2, k2, hcase⟩
  have K2 := hK1.trans k2
  clear k2
  rcases hcase with ⟨k, rfl, hg, hy2⟩ | ⟨rfl, hg, hy2⟩ | ⟨hy2, he, hg⟩
  ·
   go_simp
   first | (refine hK _ _ ?_) | skip
   clear hK K
   refine wpAny_take (i := 6) (v := .tuple #[.int .i64 (k : Nat), .bool true]) rfl (by kernel_rfl) (by kernel_rfl) (by kernel_rfl) (fun _ _ _ h => h) (Or.inl ⟨by rfl, ?_⟩) ?_
   · intro w; go_simp
   refine wpAny_take (i := 7) (v := .int .i64 (k : Nat)) rfl (by kernel_rfl) (by kernel_rfl) (by kernel_rfl) (fun _ _ _ h => h) (Or.inl ⟨by rfl, ?_⟩) ?_
   · intro w; go_simp
   refine wpAny_take (i := 8) (v := .bool true) rfl (by kernel_rfl) (by kernel_rfl) (by kernel_rfl) (fun _ _ _ h => h) (Or.inl ⟨by rfl, ?_⟩) ?_
   · intro w; go_simp
   refine wpAny_ready (rs := [9]) (by kernel_rfl) (by simp) ?_
   refine AllReady.cons rfl (fun K hK => ?_) AllReady.nil
   go_simp
   refine hK _ _ ?_
   clear hK K
   refine wpAny_ready (rs := [10]) (by kernel_rfl) (by simp) ?_
   refine AllReady.cons rfl (fun K hK => ?_) AllReady.nil
   go_simp
   refine hK _ _ ?_
   clear hK K
   refine wpAny_done (by kernel_rfl) ?_ _
   go_wp2
   go_ret
   rw [hg]
   exact ⟨by rw [endOf_ok hy2]; rfl, h2, K2⟩
  ·
   go_simp
   first | (refine hK _ _ ?_) | skip
   clear hK K
   refine wpAny_take (i := 6) (v := .tuple #[.int .i64 0, .bool false]) rfl (by kernel_rfl) (by kernel_rfl) (by kernel_rfl) (fun _ _ _ h => h) (Or.inl ⟨by rfl, ?_⟩) ?_
   · intro w; go_simp
   refine wpAny_take (i := 7) (v := .int .i64 0) rfl (by kernel_rfl) (by kernel_rfl) (by kernel_rfl) (fun _ _ _ h => h) (Or.inl ⟨by rfl, ?_⟩) ?_
   · intro w; go_simp
   refine wpAny_take (i := 8) (v := .bool false) rfl (by kernel_rfl) (by kernel_rfl) (by kernel_rfl) (fun _ _ _ h => h) (Or.inl ⟨by rfl, ?_⟩) ?_
   · intro w; go_simp
   refine wpAny_ready (rs := [9]) (by kernel_rfl) (by simp) ?_
   refine AllReady.cons rfl (fun K hK => ?_) AllReady.nil
   go_simp
   refine hK _ _ ?_
   clear hK K
   refine wpAny_ready (rs := [10]) (by kernel_rfl) (by simp) ?_
   refine AllReady.cons rfl (fun K hK => ?_) AllReady.nil
   go_simp
   refine hK _ _ ?_
   clear hK K
   refine wpAny_done (by kernel_rfl) ?_ _
   have hst : stopF σ2 1 = { σ2 with why := 1 } := by unfold stopF; rw [if_pos hy2]
   go_wp2_with fail
   refine (wrong_any _).mono ?_
   rintro e w4 ⟨rfl, rfl⟩
   rw [endOf_bad (by omega)]
   go_wp2
   rw [hg, hst]
   exact ⟨rfl, rfl, h2.congr rfl rfl, K2⟩
  ·
   rw [endOf_bad hy2] at he; subst he
   clear hK
   go_wp2
   rw [hg, endOf_bad hy2]
   exact ⟨rfl, rfl, h2, K2⟩
end Go.Proofs.YtecddphahiadlaaGreatDoor
