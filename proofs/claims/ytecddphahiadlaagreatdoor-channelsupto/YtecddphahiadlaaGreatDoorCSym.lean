import Derived.Test.YtecddphahiadlaaGreatDoorCPut
import Derived.Deep.LoopGhost
/- The document's plain: a block of kind 0. -/
namespace Go.Proofs.YtecddphahiadlaaGreatDoor
open Go.RowKit
/-- A state that can be: the next bit is one of the bytes', the text is not too long. -/
structure Fit (s : ByteArray) (σ : St) : Prop where
 pos : σ.pos ≤ 8 * s.size
 text : σ.text.length ≤ 5000
theorem Fit.bit {s : ByteArray} {σ : St} (h : Fit s σ) : Fit s (bitF s σ).2 := by
 refine ⟨bitF_pos h.pos, ?_⟩
 unfold bitF
 split
 · exact h.text
 ·
  split
  · exact h.text
  · exact h.text
theorem Fit.num {s : ByteArray} : ∀ (n : Nat) {σ : St}, Fit s σ → Fit s (numF s n σ).2
 | 0, _, h => h
 | n + 1, _, h => Fit.num n h.bit
theorem Fit.stop {s : ByteArray} {σ : St} (h : Fit s σ) (y : Nat) : Fit s (stopF σ y) := by
 unfold stopF
 split
 · exact ⟨h.pos, h.text⟩
 · exact h
theorem Fit.put {s : ByteArray} {σ : St} (h : Fit s σ) (c : UInt8) : Fit s (putF σ c) := by
 unfold putF
 split
 · exact h
 ·
  split
  · exact ⟨h.pos, h.text⟩
  · next h1 => exact ⟨h.pos, by have := h.text; simp; omega⟩
def alignF (σ : St) : St := { σ with pos := (σ.pos + 7) / 8 * 8 }
/-- k bytes as they are. -/
def bytesF (s : ByteArray) : Nat → St → St
 | 0, σ => σ
 | k + 1, σ => if σ.why = 0 then bytesF s k (putF (numF s 8 σ).2 (UInt8.ofNat (numF s 8 σ).1)) else σ
def plainHead (s : ByteArray) (σ : St) : Nat × St :=
 let a := numF s 16 (alignF σ)
 let b := numF s 16 a.2
 (a.1, if b.2.why = 0 ∧ a.1 + b.1 ≠ 65535 then stopF b.2 1 else b.2)
def plainF (s : ByteArray) (σ : St) : St := bytesF s (plainHead s σ).1 (plainHead s σ).2
theorem Fit.align {s : ByteArray} {σ : St} (h : Fit s σ) : Fit s (alignF σ) := ⟨by have := h.pos; show (σ.pos + 7) / 8 * 8 ≤ _; omega, h.text⟩
theorem bytesF_dead {s : ByteArray} {σ : St} (h : σ.why ≠ 0) (k : Nat) : bytesF s k σ = σ := by
 cases k with
 | zero => rfl
 | succ k => simp only [bytesF]; rw [if_neg h]
/-- The state of the loop over the bytes: k are still to come. -/
structure PR (B : Nat) (w wr : World) (gx : Nat) (s : ByteArray) (vt : Value) (k : Nat) (σ goal : St) : Prop where
 fit : Fit s σ
 runs : Runs B w wr gx s vt σ
 few : k ≤ 65535
 eq : bytesF s k σ = goal
theorem PR.zero {B : Nat} {w wr : World} {gx : Nat} {s : ByteArray} {vt : Value} {σ goal : St} (h : PR B w wr gx s vt 0 σ goal) : Runs B w wr gx s vt goal := by
 rw [← h.eq]; exact h.runs
theorem PR.dead {B : Nat} {w wr : World} {gx : Nat} {s : ByteArray} {vt : Value} {k : Nat} {σ goal : St} (h : PR B w wr gx s vt k σ goal) (hy : ¬ σ.why = 0) : Runs B w wr gx s vt goal := by
 rw [← h.eq, bytesF_dead hy]; exact h.runs
theorem pr_step {B : Nat} {w wr w3 w4 : World} {gx : Nat} {s : ByteArray} {vt vt' : Value} {k : Nat} {σ goal : St} (h : PR B w wr gx s vt k σ goal) (hy : σ.why = 0) (hk : 0 < k) (_hstr : Str B wr gx s σ vt') (hkp : Kp w wr gx vt)
 (hfr : ∀ g, vt'.ownBlock = some g → vt.ownBlock = some g ∨ w.heap.size ≤ g) (k3 : Kp wr w3 gx vt')
 (h4 : Runs B w3 w4 gx s vt' (putF (numF s 8 σ).2 (UInt8.ofNat (numF s 8 σ).1))) : PR B w w4 gx s vt (k - 1) (putF (numF s 8 σ).2 (UInt8.ofNat (numF s 8 σ).1)) goal := by
 have hfw := h.few
 refine ⟨(h.fit.num 8).put _, ?_, by omega, ?_⟩
 · exact Runs.trans hkp hfr (Runs.trans k3 (fun g hg => Or.inl hg) h4)
 ·
  rw [← h.eq]
  obtain ⟨k', rfl⟩ : ∃ k', k = k' + 1 := ⟨k - 1, by omega⟩
  simp only [bytesF, Nat.add_sub_cancel]
  rw [if_pos hy]
set_option maxHeartbeats 1000000 in
theorem plain_any (B gx : Nat) (s : ByteArray) (σ : St) (vt : Value) (w : World) (h : Str B w gx s σ vt) (hB : B ≤ w.heap.size) (hs : s.size ≤ 140737488400000) (hf : Fit s σ) :
 Calls Tryz.prog 86 #[.pointer (some ⟨gx, 0, none⟩)] w fun e w' => e = .returned (.tuple #[]) ∧ Runs B w w' gx s vt (plainF s σ) := by
 go_enter Tryz.func86, Tryz.ntmps86
 go_wp2_with fail
 go_loopg [5] 8 (fun k _ wr => ∃ p : Nat, (8 - p % 8) % 8 ≤ k ∧ p ≤ 8 * s.size ∧ (p + 7) / 8 = (σ.pos + 7) / 8 ∧ Str B wr gx s { σ with pos := p } vt ∧ Kp w wr gx vt)
 case atStart => exact ⟨σ.pos, by omega, hf.pos, rfl, h, Kp.refl _ _ _⟩
 case round =>
  obtain ⟨p, hpk, hp8, hpe, hstr, hkp⟩ := hrel
  have c1 := hstr.c1
  have f1 := hstr.fz 1
  simp only at c1
  by_cases hz : p % 8 = 0
  ·
   have e1 : ((p : Int) % 8 != 0) = false := by rw [bne_eq_false_iff_eq]; omega
   have hpa : p = (σ.pos + 7) / 8 * 8 := by omega
   have hA : Str B wr gx s (alignF σ) vt := by rw [hpa] at hstr; exact hstr
   have fA := hf.align
   have hBr : B ≤ wr.heap.size := Nat.le_trans hB hkp.size
   clear hpa hpk hpe hstr h f1 hf
   go_wp2_with fail
   refine (number_any B gx 16 s _ vt _ hA hs fA.pos (by omega)).mono ?_
   rintro e w1 ⟨rfl, h1, k1⟩
   have f1 := fA.num 16
   have n1 := numF_lt s 16 (alignF σ)
   have HH : Hid (plainHead s σ = plainHead s σ) := rfl
   go_wp2_with fail
   refine (number_any B gx 16 s _ vt _ h1 hs f1.pos (by omega)).mono ?_
   rintro e w2 ⟨rfl, h2, k2⟩
   have f2 := f1.num 16
   have n2 := numF_lt s 16 (numF s 16 (alignF σ)).2
   have K2 : Kp w w2 gx vt := (hkp.trans k1).trans k2
   have HP : Hid (plainHead s σ = ((numF s 16 (alignF σ)).1, if (numF s 16 (numF s 16 (alignF σ)).2).2.why = 0 ∧ (numF s 16 (alignF σ)).1 + (numF s 16 (numF s 16 (alignF σ)).2).1 ≠ 65535 then stopF (numF s 16 (numF s 16 (alignF σ)).2).2 1 else (numF s 16 (numF s 16 (alignF σ)).2).2)) := rfl
   clear hA k1 k2 hkp h1 fA f1 c1
   generalize hq : numF s 16 (numF s 16 (alignF σ)).2 = q at h2 f2 n2 HP ⊢
   generalize hr : (numF s 16 (alignF σ)).1 = r at n1 HP ⊢
   clear hq hr
   obtain ⟨m, σ2⟩ := q
   simp only at h2 f2 n2 HP ⊢
   have h216 : (2 : Nat) ^ 16 = 65536 := rfl
   rw [h216] at n1 n2
   clear h216 HH
   have d3 := h2.c3
   have HG : Hid (plainF s σ = bytesF s (plainHead s σ).1 (plainHead s σ).2) := rfl
   by_cases hw0 : σ2.why = 0
   ·
    have e3 : ((σ2.why : Int) == 0) = true := by rw [beq_iff_eq]; omega
    by_cases hm : r + m = 65535
    ·
     have e4 : ((r : Int) + (m : Int) != 65535) = false := by rw [bne_eq_false_iff_eq]; omega
     have R0 : PR B w w2 gx s vt r σ2 (plainF s σ) := by
      refine ⟨f2, ⟨vt, h2, K2, fun _ hg => Or.inl hg⟩, by omega, ?_⟩
      rw [HG.out, HP.out, if_neg (by omega)]
     clear hm hw0 HP HG h2 K2 f2
     go_wp2_with fail
     go_loopw [2, 4] (fun i _ wr => ∃ (k : Nat) (σ3 : St), i = .int .i64 (k : Nat) ∧ PR B w wr gx s vt k σ3 (plainF s σ)) (fun i _ _ => (intOf i).toNat)
     case atStart => exact ⟨r, _, rfl, R0⟩
     case round =>
      obtain ⟨k, σ3, rfl, hrel⟩ := hrel
      clear R0
      obtain ⟨vt', hstr, hkp, hfr⟩ := hrel.runs
      have hkb := hrel.few
      have d3 := hstr.c3
      by_cases hk : 0 < k
      ·
       by_cases hy : σ3.why = 0
       ·
        have e3 : ((σ3.why : Int) == 0) = true := by rw [beq_iff_eq]; omega
        go_wp2_with fail
        refine (number_any B gx 8 s _ vt' _ hstr hs hrel.fit.pos (by omega)).mono ?_
        rintro e w3 ⟨rfl, h3, k3⟩
        have n3 := numF_lt s 8 σ3
        have h28 : (2 : Nat) ^ 8 = 256 := rfl
        have n4 : (numF s 8 σ3).1 < 256 := by omega
        have HC : Hid (((numF s 8 σ3).1 : Int) = (((UInt8.ofNat (numF s 8 σ3).1).toNat : Nat) : Int)) := by
         show _ = _
         rw [UInt8.toNat_ofNat', Nat.mod_eq_of_lt (by omega)]
        have hB3 : B ≤ w3.heap.size := Nat.le_trans hB (Nat.le_trans hkp.size k3.size)
        have P3 := (put_any B gx s (numF s 8 σ3).2 vt' (UInt8.ofNat (numF s 8 σ3).1) w3 h3 hB3 (hrel.fit.num 8).text)
        rw [← HC.out] at P3
        have HP3 : Hid (_) := P3
        have hstep := fun w4 => pr_step (w4 := w4) hrel hy hk hstr hkp hfr k3
        have HST : Hid (_) := hstep
        clear P3 hstep n3 h28 h3 k3 d3
        go_wp2_with fail
        refine Calls.mono HP3.out ?_
        rintro e w4 ⟨rfl, hr4⟩
        have R := HST.out w4 hr4
        clear hr4 HST HP3 hrel hstr hkp hfr
        go_wp2
        go_roundw
        case rel => exact ⟨k - 1, _, by go_num, R⟩
        case measure => simp [intOf]; omega
       ·
        have e3 : ((σ3.why : Int) == 0) = false := by rw [beq_eq_false_iff_ne]; omega
        have R := hrel.dead hy
        clear hstr hkp hfr hrel
        go_wp2
        go_end0
        exact ⟨rfl, R⟩
      ·
       obtain rfl : k = 0 := by omega
       have R := hrel.zero
       clear hstr hkp hfr hrel
       go_wp2
       go_end0
       exact ⟨rfl, R⟩
    ·
     have e4 : ((r : Int) + (m : Int) != 65535) = true := by rw [bne_iff_ne]; omega
     have R0' : ∀ w5, Str B w5 gx s (stopF σ2 1) vt → Kp w2 w5 gx vt → PR B w w5 gx s vt r (stopF σ2 1) (plainF s σ) := by
      intro w5 h5 k5
      refine ⟨f2.stop 1, ⟨vt, h5, K2.trans k5, fun _ hg => Or.inl hg⟩, by omega, ?_⟩
      rw [HG.out, HP.out, if_pos ⟨hw0, hm⟩]
     have HR : Hid (_) := R0'
     clear R0' hm hw0 HP HG K2 f2
     go_wp2_with fail
     refine (stops_any B gx 1 s σ2 vt _ h2).mono ?_
     rintro e w5 ⟨rfl, h5, k5⟩
     have R0 := HR.out w5 h5 k5
     clear HR h5 k5 h2
     go_wp2_with fail
     go_loopw [2, 4] (fun i _ wr => ∃ (k : Nat) (σ3 : St), i = .int .i64 (k : Nat) ∧ PR B w wr gx s vt k σ3 (plainF s σ)) (fun i _ _ => (intOf i).toNat)
     case atStart => exact ⟨r, _, rfl, R0⟩
     case round =>
      obtain ⟨k, σ3, rfl, hrel⟩ := hrel
      clear R0
      obtain ⟨vt', hstr, hkp, hfr⟩ := hrel.runs
      have hkb := hrel.few
      have d3 := hstr.c3
      by_cases hk : 0 < k
      ·
       by_cases hy : σ3.why = 0
       ·
        have e3 : ((σ3.why : Int) == 0) = true := by rw [beq_iff_eq]; omega
        go_wp2_with fail
        refine (number_any B gx 8 s _ vt' _ hstr hs hrel.fit.pos (by omega)).mono ?_
        rintro e w3 ⟨rfl, h3, k3⟩
        have n3 := numF_lt s 8 σ3
        have h28 : (2 : Nat) ^ 8 = 256 := rfl
        have n4 : (numF s 8 σ3).1 < 256 := by omega
        have HC : Hid (((numF s 8 σ3).1 : Int) = (((UInt8.ofNat (numF s 8 σ3).1).toNat : Nat) : Int)) := by
         show _ = _
         rw [UInt8.toNat_ofNat', Nat.mod_eq_of_lt (by omega)]
        have hB3 : B ≤ w3.heap.size := Nat.le_trans hB (Nat.le_trans hkp.size k3.size)
        have P3 := (put_any B gx s (numF s 8 σ3).2 vt' (UInt8.ofNat (numF s 8 σ3).1) w3 h3 hB3 (hrel.fit.num 8).text)
        rw [← HC.out] at P3
        have HP3 : Hid (_) := P3
        have hstep := fun w4 => pr_step (w4 := w4) hrel hy hk hstr hkp hfr k3
        have HST : Hid (_) := hstep
        clear P3 hstep n3 h28 h3 k3 d3
        go_wp2_with fail
        refine Calls.mono HP3.out ?_
        rintro e w4 ⟨rfl, hr4⟩
        have R := HST.out w4 hr4
        clear hr4 HST HP3 hrel hstr hkp hfr
        go_wp2
        go_roundw
        case rel => exact ⟨k - 1, _, by go_num, R⟩
        case measure => simp [intOf]; omega
       ·
        have e3 : ((σ3.why : Int) == 0) = false := by rw [beq_eq_false_iff_ne]; omega
        have R := hrel.dead hy
        clear hstr hkp hfr hrel
        go_wp2
        go_end0
        exact ⟨rfl, R⟩
      ·
       obtain rfl : k = 0 := by omega
       have R := hrel.zero
       clear hstr hkp hfr hrel
       go_wp2
       go_end0
       exact ⟨rfl, R⟩
   ·
    have e3 : ((σ2.why : Int) == 0) = false := by rw [beq_eq_false_iff_ne]; omega
    have R0 : PR B w w2 gx s vt r σ2 (plainF s σ) := by
     refine ⟨f2, ⟨vt, h2, K2, fun _ hg => Or.inl hg⟩, by omega, ?_⟩
     rw [HG.out, HP.out, if_neg (by omega)]
    clear hw0 HP HG h2 K2 f2
    go_wp2_with fail
    go_loopw [2, 4] (fun i _ wr => ∃ (k : Nat) (σ3 : St), i = .int .i64 (k : Nat) ∧ PR B w wr gx s vt k σ3 (plainF s σ)) (fun i _ _ => (intOf i).toNat)
    case atStart => exact ⟨r, _, rfl, R0⟩
    case round =>
     obtain ⟨k, σ3, rfl, hrel⟩ := hrel
     clear R0
     obtain ⟨vt', hstr, hkp, hfr⟩ := hrel.runs
     have hkb := hrel.few
     have d3 := hstr.c3
     by_cases hk : 0 < k
     ·
      by_cases hy : σ3.why = 0
      ·
       have e3 : ((σ3.why : Int) == 0) = true := by rw [beq_iff_eq]; omega
       go_wp2_with fail
       refine (number_any B gx 8 s _ vt' _ hstr hs hrel.fit.pos (by omega)).mono ?_
       rintro e w3 ⟨rfl, h3, k3⟩
       have n3 := numF_lt s 8 σ3
       have h28 : (2 : Nat) ^ 8 = 256 := rfl
       have n4 : (numF s 8 σ3).1 < 256 := by omega
       have HC : Hid (((numF s 8 σ3).1 : Int) = (((UInt8.ofNat (numF s 8 σ3).1).toNat : Nat) : Int)) := by
        show _ = _
        rw [UInt8.toNat_ofNat', Nat.mod_eq_of_lt (by omega)]
       have hB3 : B ≤ w3.heap.size := Nat.le_trans hB (Nat.le_trans hkp.size k3.size)
       have P3 := (put_any B gx s (numF s 8 σ3).2 vt' (UInt8.ofNat (numF s 8 σ3).1) w3 h3 hB3 (hrel.fit.num 8).text)
       rw [← HC.out] at P3
       have HP3 : Hid (_) := P3
       have hstep := fun w4 => pr_step (w4 := w4) hrel hy hk hstr hkp hfr k3
       have HST : Hid (_) := hstep
       clear P3 hstep n3 h28 h3 k3 d3
       go_wp2_with fail
       refine Calls.mono HP3.out ?_
       rintro e w4 ⟨rfl, hr4⟩
       have R := HST.out w4 hr4
       clear hr4 HST HP3 hrel hstr hkp hfr
       go_wp2
       go_roundw
       case rel => exact ⟨k - 1, _, by go_num, R⟩
       case measure => simp [intOf]; omega
      ·
       have e3 : ((σ3.why : Int) == 0) = false := by rw [beq_eq_false_iff_ne]; omega
       have R := hrel.dead hy
       clear hstr hkp hfr hrel
       go_wp2
       go_end0
       exact ⟨rfl, R⟩
     ·
      obtain rfl : k = 0 := by omega
      have R := hrel.zero
      clear hstr hkp hfr hrel
      go_wp2
      go_end0
      exact ⟨rfl, R⟩
  ·
   have e1 : ((p : Int) % 8 != 0) = true := by rw [bne_iff_ne]; omega
   have R := hstr.setPos (p + 1)
   go_wp2
   go_roundg (gk - 1)
   case measure => omega
   case rel => exact ⟨p + 1, by omega, by omega, by omega, R, hkp.set 1 _⟩
/- The document's symbol: by codes, bit by bit. -/
/-- Is this code the one, with something in it? -/
def hitB (a cur : ByteArray) : Bool := !(a.toList == []) && (a.toList == cur.toList)
/-- Is this code longer, and begins so? -/
def longB (a cur : ByteArray) : Bool := decide (cur.size < a.size) && ((a.extract 0 cur.size).toList == cur.toList)
/-- The first of the codes from k on (r of them) that is the one. -/
def hitF (c : Nat → ByteArray) (cur : ByteArray) : Nat → Nat → Option Nat
 | 0, _ => none
 | r + 1, k => if hitB (c k) cur = true then some k else hitF c cur r (k + 1)
def someB (c : Nat → ByteArray) (cur : ByteArray) : Nat → Bool
 | 0 => false
 | k + 1 => someB c cur k || longB (c k) cur
/-- One letter more. -/
def letB (cur : ByteArray) (b : Nat) : ByteArray := cur ++ (⟨#[48, 49]⟩ : ByteArray).extract b (b + 1)
def symGo (s : ByteArray) (c : Nat → ByteArray) (n : Nat) : Nat → ByteArray → St → Int × St
 | 0, _, σ => (-1, σ)
 |
  f + 1, cur, σ => match hitF c cur n 0 with
  | some i => ((i : Int), σ)
  | none => if someB c cur n = true then (if (bitF s σ).2.why = 0 then symGo s c n f (letB cur (bitF s σ).1) (bitF s σ).2 else (-1, (bitF s σ).2)) else (-1, stopF σ 1)
def symF (s : ByteArray) (c : Nat → ByteArray) (n : Nat) (σ : St) : Int × St := symGo s c n 17 .empty σ
theorem hitF_step {c : Nat → ByteArray} {cur : ByteArray} {r k : Nat} (h : hitB (c k) cur = false) : hitF c cur (r + 1) k = hitF c cur r (k + 1) := by
 simp only [hitF]; rw [if_neg (by rw [h]; simp)]
theorem hitF_yes {c : Nat → ByteArray} {cur : ByteArray} {r k : Nat} (h : hitB (c k) cur = true) : hitF c cur (r + 1) k = some k := by
 simp only [hitF]; rw [if_pos h]
/-- The inner loop: k codes are looked at. -/
structure SymIn (c : Nat → ByteArray) (n : Nat) (cur : ByteArray) (k : Nat) : Prop where
 le : k ≤ n
 none : hitF c cur (n - k) k = hitF c cur n 0
theorem symIn_step {c : Nat → ByteArray} {n : Nat} {cur : ByteArray} {k : Nat} (h : SymIn c n cur k) (hk : k < n) (hh : hitB (c k) cur = false) : SymIn c n cur (k + 1) := by
 refine ⟨hk, ?_⟩
 rw [← h.none]
 obtain ⟨r, hr⟩ : ∃ r, n - k = r + 1 := ⟨n - k - 1, by omega⟩
 rw [hr, show n - (k + 1) = r from by omega, hitF_step hh]
theorem someB_size {c : Nat → ByteArray} {cur : ByteArray} : ∀ {n : Nat}, (∀ i, i < n → (c i).size ≤ 15) → someB c cur n = true → cur.size < 15
 | 0, _, h => by simp [someB] at h
 |
  n + 1, hc, h => by
  simp only [someB, Bool.or_eq_true] at h
  rcases h with h | h
  · exact someB_size (fun i hi => hc i (by omega)) h
  ·
   simp only [longB, Bool.and_eq_true, decide_eq_true_eq] at h
   have := hc n (by omega)
   omega
theorem letB_size (cur : ByteArray) (b : Nat) (hb : b < 2) : (letB cur b).size = cur.size + 1 := by
 unfold letB
 rw [ByteArray.size_append, ByteArray.size_extract]
 have : (⟨#[48, 49]⟩ : ByteArray).size = 2 := rfl
 omega
/-- The state of symbol's outer loop. -/
structure SymRel (B : Nat) (w wr : World) (gx : Nat) (s : ByteArray) (vt : Value) (c : Nat → ByteArray) (n f : Nat) (cur : ByteArray) (σ : St) (goal : Int × St) : Prop where
 str : Str B wr gx s σ vt
 kp : Kp w wr gx vt
 fit : Fit s σ
 size : cur.size + f = 17
 less : cur.size ≤ 15
 eq : symGo s c n f cur σ = goal
theorem hit_yes {a cur : ByteArray} (h : (!a.toList.isEmpty) = true ∧ (a.toList == cur.toList) = true) : hitB a cur = true := by
 unfold hitB
 rw [h.2, Bool.and_true]
 have := h.1
 cases ha : a.toList with
 | nil => rw [ha] at this; simp at this
 | cons x l => rfl
theorem hit_none {a cur : ByteArray} (h : a.toList = []) : hitB a cur = false := by unfold hitB; rw [h]; rfl
theorem hit_not {a cur : ByteArray} (h : (!a.toList.isEmpty) = false ∨ (a.toList == cur.toList) = false) : hitB a cur = false := by
 unfold hitB
 rcases h with h | h
 ·
  cases ha : a.toList with
  | nil => rfl
  | cons x l => rw [ha] at h; simp at h
 · rw [h, Bool.and_false]
theorem some_one {c : Nat → ByteArray} {cur : ByteArray} {k : Nat} (h : someB c cur k = true) : true = someB c cur (k + 1) := by simp [someB, h]
theorem some_long {c : Nat → ByteArray} {cur : ByteArray} {k : Nat} (h : ¬ someB c cur k = true) (h2 : cur.size < (c k).size) : (((c k).extract 0 cur.size).toList == cur.toList) = someB c cur (k + 1) := by
 simp only [someB, longB]
 rw [Bool.eq_false_iff.2 h, Bool.false_or, decide_eq_true h2, Bool.true_and]
theorem some_not {c : Nat → ByteArray} {cur : ByteArray} {k : Nat} (h : ¬ someB c cur k = true) (h2 : ¬ cur.size < (c k).size) : false = someB c cur (k + 1) := by
 simp only [someB, longB]
 rw [Bool.eq_false_iff.2 h, Bool.false_or, decide_eq_false h2, Bool.false_and]
theorem toList_size (a : ByteArray) : a.toList.length = a.size := by rw [ByteArray.toList_eq, Array.length_toList]; rfl
theorem sym_hit {B : Nat} {w wr : World} {gx : Nat} {s : ByteArray} {vt : Value} {c : Nat → ByteArray} {n f : Nat} {cur : ByteArray} {σ : St} {goal : Int × St} (h : SymRel B w wr gx s vt c n f cur σ goal) (hc : ∀ i, i < n → (c i).size ≤ 15) :
 ∀ k, hitB (c k) cur = true → k < n → SymIn c n cur k → goal = ((k : Int), σ) := by
 intro k hh hk hin
 have h1 : (c k).size = cur.size := by
  have h2 : (c k).toList = cur.toList := by
   simp only [hitB, Bool.and_eq_true, beq_iff_eq] at hh
   exact hh.2
  rw [← toList_size, ← toList_size, h2]
 have h3 := hc k hk
 have h4 := h.size
 obtain ⟨f', rfl⟩ : ∃ f', f = f' + 1 := ⟨f - 1, by omega⟩
 have h5 : hitF c cur n 0 = some k := by
  rw [← hin.none]
  obtain ⟨r, hr⟩ : ∃ r, n - k = r + 1 := ⟨n - k - 1, by omega⟩
  rw [hr, hitF_yes hh]
 rw [← h.eq]
 simp only [symGo, h5]
theorem sym_fuel {B : Nat} {w wr : World} {gx : Nat} {s : ByteArray} {vt : Value} {c : Nat → ByteArray} {n f : Nat} {cur : ByteArray} {σ : St} {goal : Int × St} (h : SymRel B w wr gx s vt c n f cur σ goal) : 1 ≤ f := by
 have h1 := h.size
 have h2 := h.less
 omega
set_option maxHeartbeats 1000000 in
theorem symbol_any (B gx gl n cap : Nat) (s : ByteArray) (c : Nat → ByteArray) (σ : St) (vt : Value) (w : World) (h : Str B w gx s σ vt) (hs : s.size ≤ 140737488400000) (hf : Fit s σ)
 (hl : w.rowIs gl 9 n (fun i => .string (c i))) (hgl : gl ≠ gx) (hvl : vt.ownBlock ≠ some gl) (hn : n ≤ 1000) (hc : ∀ i, i < n → (c i).size ≤ 15) :
 Calls Tryz.prog 111 #[.pointer (some ⟨gx, 0, none⟩), .slice (some ⟨gl, 0, none⟩) n cap] w fun e w' => e = .returned (.int .i64 (symF s c n σ).1) ∧ Str B w' gx s (symF s c n σ).2 vt ∧ Kp w w' gx vt := by
 have R0 : SymRel B w w gx s vt c n 17 .empty σ (symF s c n σ) := ⟨h, Kp.refl _ _ _, hf, rfl, by decide, rfl⟩
 generalize hgoal : symF s c n σ = goal at R0 ⊢
 clear hgoal
 go_enter Tryz.func111, Tryz.ntmps111
 go_wp2
 go_loopw [5, 6, 7, 8] (fun x _ _ _ wr => ∃ (f : Nat) (cur : ByteArray) (σ1 : St), x = .string cur ∧ SymRel B w wr gx s vt c n f cur σ1 goal) (fun x _ _ _ _ => 17 - (match x with | .string b => b.size | _ => 0))
 case atStart => exact ⟨17, _, σ, rfl, R0⟩
 case round =>
  obtain ⟨f, cur, σ1, rfl, hrel⟩ := hrel
  clear R0
  have hrow := hl.of_block (hrel.kp.block gl hl.lt hgl hvl)
  go_wp2_with fail
  go_loop [6, 7] (fun y i => ∃ k : Nat, i = .int .i64 (k : Nat) ∧ y = .bool (someB c cur k) ∧ SymIn c n cur k) (fun _ i => n - (intOf i).toNat)
  case atStart => exact ⟨0, rfl, rfl, ⟨by omega, rfl⟩⟩
  case round =>
   obtain ⟨k, rfl, rfl, hin⟩ := hrel
   by_cases hk : k < n
   ·
    have ck := hrow.cell hk
    have ik : (k : Int) < (n : Int) := by omega
    have HH : Hid (∀ k, hitB (c k) cur = true → k < n → SymIn c n cur k → goal = ((k : Int), σ1)) := sym_hit hrel hc
    go_wp2
    all_goals first
     | (
      go_ret
      have hg := HH.out k (hit_yes (by assumption)) hk hin
      rw [hg]
      exact ⟨rfl, hrel.str, hrel.kp⟩)
     | (
      go_round
      case rel => exact ⟨k + 1, by go_num, congrArg Value.bool (some_one (by assumption)), symIn_step hin hk (by first | exact hit_none (by assumption) | exact hit_not (by assumption))⟩
      case measure => simp [intOf]; omega)
     | (
      go_round
      case rel => exact ⟨k + 1, by go_num, congrArg Value.bool (some_long (by assumption) (by assumption)), symIn_step hin hk (by first | exact hit_none (by assumption) | exact hit_not (by assumption))⟩
      case measure => simp [intOf]; omega)
     | (
      go_round
      case rel => exact ⟨k + 1, by go_num, congrArg Value.bool (some_not (by assumption) (by assumption)), symIn_step hin hk (by first | exact hit_none (by assumption) | exact hit_not (by assumption))⟩
      case measure => simp [intOf]; omega)
   ·
    obtain rfl : k = n := by have := hin.le; omega
    have hno : hitF c cur k 0 = none := by rw [← hin.none, Nat.sub_self]; rfl
    have hfp : 1 ≤ f := sym_fuel hrel
    obtain ⟨f', rfl⟩ : ∃ f', f = f' + 1 := ⟨f - 1, by omega⟩
    have heq := hrel.eq
    simp only [symGo, hno] at heq
    cases hsb : someB c cur k
    ·
     rw [hsb] at heq
     have hg : goal = (-1, stopF σ1 1) := by rw [← heq]; simp
     clear heq hsb
     go_wp2_with fail
     refine (stops_any B gx 1 s σ1 vt _ hrel.str).mono ?_
     rintro e w' ⟨rfl, h', kp⟩
     have kp' := hrel.kp.trans kp
     have HG : Hid (goal = (-1, stopF σ1 1)) := hg
     clear hg kp
     go_wp2
     go_ret
     rw [HG.out]
     exact ⟨rfl, h', kp'⟩
    ·
     rw [hsb, if_pos rfl] at heq
     have hsz := someB_size hc hsb
     have hcs := hrel.size
     have HE : Hid (_) := heq
     clear heq hsb
     have hb2 := bitF_lt s σ1
     have ft := hrel.fit.bit
     go_wp2_with fail
     refine (bit_any B gx s σ1 vt _ hrel.str hs hrel.fit.pos).mono ?_
     rintro e w' ⟨rfl, h', kp⟩
     have kp' := hrel.kp.trans kp
     clear kp
     generalize bitF s σ1 = bb at hb2 h' HE ft ⊢
     obtain ⟨b, σ2⟩ := bb
     simp only at hb2 h' HE ft ⊢
     have d3 := h'.c3
     by_cases hy : σ2.why = 0
     ·
      have e3 : ((σ2.why : Int) != 0) = false := by rw [bne_eq_false_iff_eq]; omega
      have HE2 : Hid (symGo s c k f' (letB cur b) σ2 = goal) := by
       show _ = _
       rw [← HE.out, if_pos hy]
      have hls := letB_size cur b hb2
      have R : SymRel B w w' gx s vt c k f' (letB cur b) σ2 goal := ⟨h', kp', ft, by omega, by omega, HE2.out⟩
      have hcm : cur.size + 2 ≤ 9223372036854775807 := by omega
      unfold letB at R hls
      clear HE HE2 h' hy
      go_wp2
      go_roundw
      case rel => exact ⟨f', _, σ2, rfl, R⟩
      case measure =>
       show 17 - (cur ++ (⟨#[48, 49]⟩ : ByteArray).extract b (b + 1)).size < 17 - cur.size
       omega
     ·
      have e3 : ((σ2.why : Int) != 0) = true := by rw [bne_iff_ne]; omega
      have HG : Hid (goal = (-1, σ2)) := by
       show _ = _
       rw [← HE.out, if_neg hy]
      clear HE hy
      go_wp2
      go_ret
      rw [HG.out]
      exact ⟨rfl, h', kp'⟩
end Go.Proofs.YtecddphahiadlaaGreatDoor
