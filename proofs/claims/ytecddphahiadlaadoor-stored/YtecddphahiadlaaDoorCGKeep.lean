/- The walk of Stored. -/
import Derived.Test.YtecddphahiadlaaDoorCKLeaf
import Derived.Test.YtecddphahiadlaaDoorCKeepB
import Derived.Test.YtecddphahiadlaaDoorCGLaw
import Derived.BigQuiet
import Derived.Deep.QuietTactic
import Derived.Deep.CutBlock
import Derived.Deep.DeepCutAuto
import Derived.Lib.BufferRead
namespace Go.Proofs.YtecddphahiadlaaDoor
open Go.RowKit

theorem conv_new (w : World) (l : List UInt8) (q : Nat) : (convert 32 9 (.slice (some ⟨w.heap.size, 0, none⟩) l.length l.length)).run Tryd.prog ((w.alloc (.cells (l.map fun c => Value.int .u8 (c.toNat : Int)).toArray 5)).drewN q) = .ok (.string ⟨l.toArray⟩) ((w.alloc (.cells (l.map fun c => Value.int .u8 (c.toNat : Int)).toArray 5)).drewN q) := by
  refine run_convert_bytes_back (P := Tryd.prog) _ 32 9 5 ⟨w.heap.size, 0, none⟩ l.length l Tryd.underlying32 Tryd.underlying5 Tryd.underlying9 (fun j hj => ?_)
  have e : (w.alloc (.cells (l.map fun c => Value.int .u8 (c.toNat : Int)).toArray 5)).cell? ⟨w.heap.size, j, none⟩ = some (.int .u8 (l[j].toNat : Int)) := by
    rw [World.cell?_alloc_new]
    simp [List.getElem?_eq_getElem hj]
  have ea : (⟨w.heap.size, 0, none⟩ : Addr).add j = ⟨w.heap.size, j, none⟩ := by cases j <;> simp [Addr.add]
  rw [ea]
  exact e

theorem u8_of (n : Nat) (h : n < 256) : ((UInt8.ofNat n).toNat : Int) = (n : Int) := by
  rw [UInt8.toNat_ofNat']
  omega

theorem pow_wrap : ∀ k : Nat, k < 16 → wrap64 (2 ^ k) = ((2 ^ k : Nat) : Int) := by decide +kernel
theorem pow_lt16 (k : Nat) (h : k < 16) : 0 < 2 ^ k ∧ 2 ^ k < 65536 := ⟨Nat.pow_pos (by omega), by
  have := Nat.pow_lt_pow_right (a := 2) (by omega) h
  omega⟩

theorem bits_xor_i64 (a b : Nat) (ha : a < 65536) (hb : b < 65536) : bits .xor .i64 (a : Int) (b : Int) = ((a ^^^ b : Nat) : Int) := by
  have hx : a ^^^ b < 2 ^ 16 := Nat.xor_lt_two_pow (by omega) (by omega)
  have h1 : (BitVec.ofInt 64 (a : Int)).toNat = a := by
    rw [BitVec.ofInt_natCast, BitVec.toNat_ofNat]; exact Nat.mod_eq_of_lt (by omega)
  have h2 : (BitVec.ofInt 64 (b : Int)).toNat = b := by
    rw [BitVec.ofInt_natCast, BitVec.toNat_ofNat]; exact Nat.mod_eq_of_lt (by omega)
  show IntKind.i64.wrap ((BitVec.ofInt 64 (a : Int) ^^^ BitVec.ofInt 64 (b : Int)).toNat : Int) = _
  rw [BitVec.toNat_xor, h1, h2]
  simp [IntKind.wrap, IntKind.bits, IntKind.signed]
  omega

/-- Another number than m, and no greater than it may be. -/
theorem xor_other (m k : Nat) (hm : m < 65536) (hk : k < 16) : m ^^^ 2 ^ k ≠ m ∧ m ^^^ 2 ^ k < 65536 := by
  obtain ⟨h0, h1⟩ := pow_lt16 k hk
  refine ⟨fun h => ?_, Nat.xor_lt_two_pow (n := 16) (by omega) (by omega)⟩
  have e : m ^^^ (m ^^^ 2 ^ k) = m ^^^ m := by rw [h]
  rw [← Nat.xor_assoc, Nat.xor_self, Nat.zero_xor] at e
  omega

/-- Three bytes of a number's block, and two. -/
theorem conv3 (l : UInt8) (n : Nat) (h : n < 65536) (w : World) : (convert 32 9 (.slice (some ⟨w.heap.size, 0, none⟩) 3 3)).run Tryd.prog (w.alloc (.cells #[.int .u8 (l.toNat : Int), .int .u8 ((n : Int) % 256), .int .u8 ((n : Int) / 256)] 5)) = .ok (.string ⟨#[l, UInt8.ofNat (n % 256), UInt8.ofNat (n / 256)]⟩) (w.alloc (.cells #[.int .u8 (l.toNat : Int), .int .u8 ((n : Int) % 256), .int .u8 ((n : Int) / 256)] 5)) := by
  have e1 : (n : Int) % 256 = ((UInt8.ofNat (n % 256)).toNat : Int) := by rw [u8_of _ (by omega)]; omega
  have e2 : (n : Int) / 256 = ((UInt8.ofNat (n / 256)).toNat : Int) := by rw [u8_of _ (by omega)]; omega
  rw [e1, e2]
  exact conv_new w [l, UInt8.ofNat (n % 256), UInt8.ofNat (n / 256)] 0
theorem conv2 (n : Nat) (h : n < 65536) (w : World) (q : Nat) : (convert 32 9 (.slice (some ⟨w.heap.size, 0, none⟩) 2 2)).run Tryd.prog ((w.alloc (.cells #[.int .u8 ((n : Int) % 256), .int .u8 ((n : Int) / 256)] 5)).drewN q) = .ok (.string ⟨#[UInt8.ofNat (n % 256), UInt8.ofNat (n / 256)]⟩) ((w.alloc (.cells #[.int .u8 ((n : Int) % 256), .int .u8 ((n : Int) / 256)] 5)).drewN q) := by
  have e1 : (n : Int) % 256 = ((UInt8.ofNat (n % 256)).toNat : Int) := by rw [u8_of _ (by omega)]; omega
  have e2 : (n : Int) / 256 = ((UInt8.ofNat (n / 256)).toNat : Int) := by rw [u8_of _ (by omega)]; omega
  rw [e1, e2]
  exact conv_new w [UInt8.ofNat (n % 256), UInt8.ofNat (n / 256)] q

set_option maxRecDepth 100000 in
set_option maxHeartbeats 4000000 in
theorem law_stored_any (t : ByteArray) (ao : Option Addr) (bit : Int) (w : World) (r : Nat → Int) (lenN capN : Nat) (ht : t.size ≤ maxLen)
    (_hlen : lenN ≤ 9223372036854775807)
    (hraw : ∀ k, k < lenN → ∃ b off, ao = some ⟨b, off, none⟩ ∧ b < w.heap.size ∧ w.cell? ⟨b, off + k, none⟩ = some (.int .i64 (r k)))
    (hr : ∀ k, k < lenN → -9223372036854775808 ≤ r k ∧ r k ≤ 9223372036854775807) (hb1 : -9223372036854775808 ≤ bit) (hb2 : bit ≤ 9223372036854775807)
    (h0 : 1 < w.heap.size) (hord : OrdIn w 1) :
    Calls Tryd.prog 4 #[.string t, .slice ao lenN capN, .int .i64 bit] w fun e w' => e = .returned (.bool true) ∧ Below w.heap.size w w' := by
  go_enter Tryd.func4, Tryd.ntmps4
  go_wp2_with fail
  refine (cut_any t w ht).mono ?_
  rintro e w1 ⟨rfl, hw⟩
  rw [hw]
  clear hw w1
  have hT := cutB_size t
  generalize cutB t = T at hT ⊢
  go_wp2_with fail
  go_loopw [7, 8, 9, 10] (fun v b x i wr => ∃ (S Z R : ByteArray) (k : Nat), v = .string S ∧ b = .string Z ∧ x = .string R ∧ i = .int .i64 k ∧ k ≤ 20 ∧ KR T S R k ∧ Below w.heap.size w wr) (fun _ _ _ i _ => 20 - (intOf i).toNat)
  case atStart => exact ⟨_, _, _, 0, rfl, rfl, rfl, rfl, by omega, KR.start T, Below.refl _ _⟩
  case round =>
    obtain ⟨S, Z, R, k, rfl, rfl, rfl, rfl, hk, hkr, below⟩ := hrel
    obtain ⟨hS, hR⟩ := hkr.sizes hT
    have hpk := pickN_bd bit 16 (by omega)
    by_cases hlt : k < lenN
    · by_cases h20 : k < 20
      · obtain ⟨b, off, hao, hbw, hc⟩ := hraw k hlt
        have hc' : wr.cell? ⟨b, off + k, none⟩ = some (.int .i64 (r k)) := (below.cell (p := ⟨b, off + k, none⟩) hbw).trans hc
        have hrk := hr k hlt
        rw [hao]
        have hpb := pickN_bd (r k) (R.size + 1) (by omega)
        go_wp2_with fail
        refine (pick_any (r k) (R.size + 1) _ hrk.1 hrk.2 (by omega) (by omega)).mono ?_
        rintro e w1 ⟨rfl, rfl⟩
        obtain ⟨n, hn⟩ := Int.eq_ofNat_of_zero_le hpb.1
        rw [hn] at hpb ⊢
        clear hn hc hc'
        by_cases hl : n = R.size
        · subst hl
          go_wp2_with fail
          refine (pick_any bit 16 _ hb1 hb2 (by omega) (by omega)).mono ?_
          rintro e w2 ⟨rfl, rfl⟩
          obtain ⟨kk, hkk⟩ := Int.eq_ofNat_of_zero_le hpk.1
          rw [hkk] at hpk ⊢
          clear hkk
          have cv3 : ∀ w' : World, (convert 32 9 (.slice (some ⟨w'.heap.size, 0, none⟩) 3 3)).run Tryd.prog (w'.alloc (.cells #[.int .u8 1, .int .u8 ((R.size : Int) % 256), .int .u8 ((R.size : Int) / 256)] 5)) = .ok (.string ⟨#[1, UInt8.ofNat (R.size % 256), UInt8.ofNat (R.size / 256)]⟩) (w'.alloc (.cells #[.int .u8 1, .int .u8 ((R.size : Int) % 256), .int .u8 ((R.size : Int) / 256)] 5)) := conv3 1 R.size (by omega)
          obtain ⟨m, hm⟩ : ∃ m : Nat, 65535 - (R.size : Int) = (m : Int) := ⟨65535 - R.size, by omega⟩
          have cm0 : ∀ w' : World, (convert 32 9 (.slice (some ⟨w'.heap.size, 0, none⟩) 2 2)).run Tryd.prog (w'.alloc (.cells #[.int .u8 ((m : Int) % 256), .int .u8 ((m : Int) / 256)] 5)) = .ok (.string ⟨#[UInt8.ofNat (m % 256), UInt8.ofNat (m / 256)]⟩) (w'.alloc (.cells #[.int .u8 ((m : Int) % 256), .int .u8 ((m : Int) / 256)] 5)) := fun w' => conv2 m (by omega) w' 0
          have cm1 : ∀ w' : World, (convert 32 9 (.slice (some ⟨w'.heap.size, 0, none⟩) 2 2)).run Tryd.prog (w'.alloc (.cells #[.int .u8 ((m : Int) % 256), .int .u8 ((m : Int) / 256)] 5)).drew = .ok (.string ⟨#[UInt8.ofNat (m % 256), UInt8.ofNat (m / 256)]⟩) (w'.alloc (.cells #[.int .u8 ((m : Int) % 256), .int .u8 ((m : Int) / 256)] 5)).drew := fun w' => conv2 m (by omega) w' 1
          go_wp2_with fail
          have hb3 : Below w.heap.size w (w2.alloc (.cells #[.int .u8 1, .int .u8 ((R.size : Int) % 256), .int .u8 ((R.size : Int) / 256)] 5)) := below.alloc below.size _
          generalize w2.alloc (.cells #[.int .u8 1, .int .u8 ((R.size : Int) % 256), .int .u8 ((R.size : Int) / 256)] 5) = w3 at hb3 ⊢
          have hK := pow_wrap kk (by omega)
          have hX := xor_other m kk (by omega) (by omega)
          have hxx := bits_xor_i64 m (2 ^ kk) (by omega) (pow_lt16 kk (by omega)).2
          generalize m ^^^ 2 ^ kk = X at hX hxx
          generalize 2 ^ kk = K at hK hxx ⊢
          have cx0 : ∀ w' : World, (convert 32 9 (.slice (some ⟨w'.heap.size, 0, none⟩) 2 2)).run Tryd.prog (w'.alloc (.cells #[.int .u8 ((X : Int) % 256), .int .u8 ((X : Int) / 256)] 5)) = .ok (.string ⟨#[UInt8.ofNat (X % 256), UInt8.ofNat (X / 256)]⟩) (w'.alloc (.cells #[.int .u8 ((X : Int) % 256), .int .u8 ((X : Int) / 256)] 5)) := fun w' => conv2 X hX.2 w' 0
          have cx1 : ∀ w' : World, (convert 32 9 (.slice (some ⟨w'.heap.size, 0, none⟩) 2 2)).run Tryd.prog (w'.alloc (.cells #[.int .u8 ((X : Int) % 256), .int .u8 ((X : Int) / 256)] 5)).drew = .ok (.string ⟨#[UInt8.ofNat (X % 256), UInt8.ofNat (X / 256)]⟩) (w'.alloc (.cells #[.int .u8 ((X : Int) % 256), .int .u8 ((X : Int) / 256)] 5)).drew := fun w' => conv2 X hX.2 w' 1
          go_region
          have hb4 : Below w.heap.size w (w3.alloc (.cells #[.int .u8 ((m : Int) % 256), .int .u8 ((m : Int) / 256)] 5)).drew := (hb3.alloc hb3.size _).drew
          generalize (w3.alloc (.cells #[.int .u8 ((m : Int) % 256), .int .u8 ((m : Int) / 256)] 5)).drew = w4 at hb4 ⊢
          go_wp2_with fail
          go_region
          have hb5 : Below w.heap.size w (w4.alloc (.cells #[.int .u8 ((X : Int) % 256), .int .u8 ((X : Int) / 256)] 5)).drew := (hb4.alloc hb4.size _).drew
          generalize (w4.alloc (.cells #[.int .u8 ((X : Int) % 256), .int .u8 ((X : Int) / 256)] 5)).drew = w5 at hb5 ⊢
          clear hb3 hb4 cv3 cm0 cm1 cx0 cx1
          have hlast := hkr.last (n := R.size) (m := m) hT rfl (by omega)
          have hbad := hkr.bad (n := R.size) (X := X) (by omega) hX.2 (by omega)
          have hys := new_size S R 1 (UInt8.ofNat (R.size % 256)) (UInt8.ofNat (R.size / 256)) (UInt8.ofNat (m % 256)) (UInt8.ofNat (m / 256)) R.size (Nat.le_refl _)
          have hqs := new_size S R 1 (UInt8.ofNat (R.size % 256)) (UInt8.ofNat (R.size / 256)) (UInt8.ofNat (X % 256)) (UInt8.ofNat (X / 256)) R.size (Nat.le_refl _)
          have hxt : R.extract 0 R.size = R := by simp
          rw [hxt] at hlast hbad hys hqs
          clear hxt
          generalize S ++ ⟨#[1, UInt8.ofNat (R.size % 256), UInt8.ofNat (R.size / 256)]⟩ ++ ⟨#[UInt8.ofNat (m % 256), UInt8.ofNat (m / 256)]⟩ ++ R = Y at hlast hys ⊢
          generalize S ++ ⟨#[1, UInt8.ofNat (R.size % 256), UInt8.ofNat (R.size / 256)]⟩ ++ ⟨#[UInt8.ofNat (X % 256), UInt8.ofNat (X / 256)]⟩ ++ R = Q at hbad hqs ⊢
          have hord5 := hord.below hb5 h0
          have h05 := Nat.lt_of_lt_of_le h0 hb5.size
          go_wp2_with fail
          refine (ginflate_any Y w5 (by omega) h05 hord5).mono ?_
          rintro e6 w6 ⟨he6, hb6⟩
          rw [hlast] at he6
          subst he6
          have hord6 := hord5.below hb6 h05
          have h06 := Nat.lt_of_lt_of_le h05 hb6.size
          go_wp2_with fail
          refine (ginflate_any Q w6 (by omega) h06 hord6).mono ?_
          rintro e7 w7 ⟨he7, hb7⟩
          rw [hbad] at he7
          subst he7
          have hB7 : Below w.heap.size w w7 := hb5.trans ((hb6.mono hb5.size).trans (hb7.mono (Nat.le_trans hb5.size hb6.size)))
          go_wp2
          go_ret
          exact ⟨rfl, hB7⟩
        · have e1 : (((n : Int) == (R.size : Int))) = false := by rw [beq_eq_false_iff_ne]; omega
          go_wp2_with fail
          refine (pick_any bit 16 _ hb1 hb2 (by omega) (by omega)).mono ?_
          rintro e w2 ⟨rfl, rfl⟩
          obtain ⟨kk, hkk⟩ := Int.eq_ofNat_of_zero_le hpk.1
          rw [hkk] at hpk ⊢
          clear hkk
          have cv3 : ∀ w' : World, (convert 32 9 (.slice (some ⟨w'.heap.size, 0, none⟩) 3 3)).run Tryd.prog (w'.alloc (.cells #[.int .u8 0, .int .u8 ((n : Int) % 256), .int .u8 ((n : Int) / 256)] 5)) = .ok (.string ⟨#[0, UInt8.ofNat (n % 256), UInt8.ofNat (n / 256)]⟩) (w'.alloc (.cells #[.int .u8 0, .int .u8 ((n : Int) % 256), .int .u8 ((n : Int) / 256)] 5)) := conv3 0 n (by omega)
          obtain ⟨m, hm⟩ : ∃ m : Nat, 65535 - (n : Int) = (m : Int) := ⟨65535 - n, by omega⟩
          have cm0 : ∀ w' : World, (convert 32 9 (.slice (some ⟨w'.heap.size, 0, none⟩) 2 2)).run Tryd.prog (w'.alloc (.cells #[.int .u8 ((m : Int) % 256), .int .u8 ((m : Int) / 256)] 5)) = .ok (.string ⟨#[UInt8.ofNat (m % 256), UInt8.ofNat (m / 256)]⟩) (w'.alloc (.cells #[.int .u8 ((m : Int) % 256), .int .u8 ((m : Int) / 256)] 5)) := fun w' => conv2 m (by omega) w' 0
          have cm1 : ∀ w' : World, (convert 32 9 (.slice (some ⟨w'.heap.size, 0, none⟩) 2 2)).run Tryd.prog (w'.alloc (.cells #[.int .u8 ((m : Int) % 256), .int .u8 ((m : Int) / 256)] 5)).drew = .ok (.string ⟨#[UInt8.ofNat (m % 256), UInt8.ofNat (m / 256)]⟩) (w'.alloc (.cells #[.int .u8 ((m : Int) % 256), .int .u8 ((m : Int) / 256)] 5)).drew := fun w' => conv2 m (by omega) w' 1
          go_wp2_with fail
          have hb3 : Below w.heap.size w (w2.alloc (.cells #[.int .u8 0, .int .u8 ((n : Int) % 256), .int .u8 ((n : Int) / 256)] 5)) := below.alloc below.size _
          generalize w2.alloc (.cells #[.int .u8 0, .int .u8 ((n : Int) % 256), .int .u8 ((n : Int) / 256)] 5) = w3 at hb3 ⊢
          have hK := pow_wrap kk (by omega)
          have hX := xor_other m kk (by omega) (by omega)
          have hxx := bits_xor_i64 m (2 ^ kk) (by omega) (pow_lt16 kk (by omega)).2
          generalize m ^^^ 2 ^ kk = X at hX hxx
          generalize 2 ^ kk = K at hK hxx ⊢
          have cx0 : ∀ w' : World, (convert 32 9 (.slice (some ⟨w'.heap.size, 0, none⟩) 2 2)).run Tryd.prog (w'.alloc (.cells #[.int .u8 ((X : Int) % 256), .int .u8 ((X : Int) / 256)] 5)) = .ok (.string ⟨#[UInt8.ofNat (X % 256), UInt8.ofNat (X / 256)]⟩) (w'.alloc (.cells #[.int .u8 ((X : Int) % 256), .int .u8 ((X : Int) / 256)] 5)) := fun w' => conv2 X hX.2 w' 0
          have cx1 : ∀ w' : World, (convert 32 9 (.slice (some ⟨w'.heap.size, 0, none⟩) 2 2)).run Tryd.prog (w'.alloc (.cells #[.int .u8 ((X : Int) % 256), .int .u8 ((X : Int) / 256)] 5)).drew = .ok (.string ⟨#[UInt8.ofNat (X % 256), UInt8.ofNat (X / 256)]⟩) (w'.alloc (.cells #[.int .u8 ((X : Int) % 256), .int .u8 ((X : Int) / 256)] 5)).drew := fun w' => conv2 X hX.2 w' 1
          go_region
          have hb4 : Below w.heap.size w (w3.alloc (.cells #[.int .u8 ((m : Int) % 256), .int .u8 ((m : Int) / 256)] 5)).drew := (hb3.alloc hb3.size _).drew
          generalize (w3.alloc (.cells #[.int .u8 ((m : Int) % 256), .int .u8 ((m : Int) / 256)] 5)).drew = w4 at hb4 ⊢
          go_wp2_with fail
          go_region
          have hb5 : Below w.heap.size w (w4.alloc (.cells #[.int .u8 ((X : Int) % 256), .int .u8 ((X : Int) / 256)] 5)).drew := (hb4.alloc hb4.size _).drew
          generalize (w4.alloc (.cells #[.int .u8 ((X : Int) % 256), .int .u8 ((X : Int) / 256)] 5)).drew = w5 at hb5 ⊢
          clear hb3 hb4 cv3 cm0 cm1 cx0 cx1
          have hmore := hkr.more (n := n) (m := m) hT (by omega) (by omega)
          generalize S ++ ⟨#[0, UInt8.ofNat (n % 256), UInt8.ofNat (n / 256)]⟩ ++ ⟨#[UInt8.ofNat (m % 256), UInt8.ofNat (m / 256)]⟩ ++ R.extract 0 n = S2 at hmore ⊢
          go_wp2_with fail
          go_roundw
          case rel => exact ⟨_, _, _, k + 1, rfl, rfl, rfl, by go_num, by omega, hmore, hb5⟩
          case measure => simp [intOf]; omega
      · have h20' : ¬ ((k : Int) < 20) := by omega
        go_wp2_with fail
        refine (pick_any bit 16 _ hb1 hb2 (by omega) (by omega)).mono ?_
        rintro e w2 ⟨rfl, rfl⟩
        obtain ⟨kk, hkk⟩ := Int.eq_ofNat_of_zero_le hpk.1
        rw [hkk] at hpk ⊢
        clear hkk
        have cv3 : ∀ w' : World, (convert 32 9 (.slice (some ⟨w'.heap.size, 0, none⟩) 3 3)).run Tryd.prog (w'.alloc (.cells #[.int .u8 1, .int .u8 ((R.size : Int) % 256), .int .u8 ((R.size : Int) / 256)] 5)) = .ok (.string ⟨#[1, UInt8.ofNat (R.size % 256), UInt8.ofNat (R.size / 256)]⟩) (w'.alloc (.cells #[.int .u8 1, .int .u8 ((R.size : Int) % 256), .int .u8 ((R.size : Int) / 256)] 5)) := conv3 1 R.size (by omega)
        obtain ⟨m, hm⟩ : ∃ m : Nat, 65535 - (R.size : Int) = (m : Int) := ⟨65535 - R.size, by omega⟩
        have cm0 : ∀ w' : World, (convert 32 9 (.slice (some ⟨w'.heap.size, 0, none⟩) 2 2)).run Tryd.prog (w'.alloc (.cells #[.int .u8 ((m : Int) % 256), .int .u8 ((m : Int) / 256)] 5)) = .ok (.string ⟨#[UInt8.ofNat (m % 256), UInt8.ofNat (m / 256)]⟩) (w'.alloc (.cells #[.int .u8 ((m : Int) % 256), .int .u8 ((m : Int) / 256)] 5)) := fun w' => conv2 m (by omega) w' 0
        have cm1 : ∀ w' : World, (convert 32 9 (.slice (some ⟨w'.heap.size, 0, none⟩) 2 2)).run Tryd.prog (w'.alloc (.cells #[.int .u8 ((m : Int) % 256), .int .u8 ((m : Int) / 256)] 5)).drew = .ok (.string ⟨#[UInt8.ofNat (m % 256), UInt8.ofNat (m / 256)]⟩) (w'.alloc (.cells #[.int .u8 ((m : Int) % 256), .int .u8 ((m : Int) / 256)] 5)).drew := fun w' => conv2 m (by omega) w' 1
        go_wp2_with fail
        have hb3 : Below w.heap.size w (w2.alloc (.cells #[.int .u8 1, .int .u8 ((R.size : Int) % 256), .int .u8 ((R.size : Int) / 256)] 5)) := below.alloc below.size _
        generalize w2.alloc (.cells #[.int .u8 1, .int .u8 ((R.size : Int) % 256), .int .u8 ((R.size : Int) / 256)] 5) = w3 at hb3 ⊢
        have hK := pow_wrap kk (by omega)
        have hX := xor_other m kk (by omega) (by omega)
        have hxx := bits_xor_i64 m (2 ^ kk) (by omega) (pow_lt16 kk (by omega)).2
        generalize m ^^^ 2 ^ kk = X at hX hxx
        generalize 2 ^ kk = K at hK hxx ⊢
        have cx0 : ∀ w' : World, (convert 32 9 (.slice (some ⟨w'.heap.size, 0, none⟩) 2 2)).run Tryd.prog (w'.alloc (.cells #[.int .u8 ((X : Int) % 256), .int .u8 ((X : Int) / 256)] 5)) = .ok (.string ⟨#[UInt8.ofNat (X % 256), UInt8.ofNat (X / 256)]⟩) (w'.alloc (.cells #[.int .u8 ((X : Int) % 256), .int .u8 ((X : Int) / 256)] 5)) := fun w' => conv2 X hX.2 w' 0
        have cx1 : ∀ w' : World, (convert 32 9 (.slice (some ⟨w'.heap.size, 0, none⟩) 2 2)).run Tryd.prog (w'.alloc (.cells #[.int .u8 ((X : Int) % 256), .int .u8 ((X : Int) / 256)] 5)).drew = .ok (.string ⟨#[UInt8.ofNat (X % 256), UInt8.ofNat (X / 256)]⟩) (w'.alloc (.cells #[.int .u8 ((X : Int) % 256), .int .u8 ((X : Int) / 256)] 5)).drew := fun w' => conv2 X hX.2 w' 1
        go_region
        have hb4 : Below w.heap.size w (w3.alloc (.cells #[.int .u8 ((m : Int) % 256), .int .u8 ((m : Int) / 256)] 5)).drew := (hb3.alloc hb3.size _).drew
        generalize (w3.alloc (.cells #[.int .u8 ((m : Int) % 256), .int .u8 ((m : Int) / 256)] 5)).drew = w4 at hb4 ⊢
        go_wp2_with fail
        go_region
        have hb5 : Below w.heap.size w (w4.alloc (.cells #[.int .u8 ((X : Int) % 256), .int .u8 ((X : Int) / 256)] 5)).drew := (hb4.alloc hb4.size _).drew
        generalize (w4.alloc (.cells #[.int .u8 ((X : Int) % 256), .int .u8 ((X : Int) / 256)] 5)).drew = w5 at hb5 ⊢
        clear hb3 hb4 cv3 cm0 cm1 cx0 cx1
        have hlast := hkr.last (n := R.size) (m := m) hT rfl (by omega)
        have hbad := hkr.bad (n := R.size) (X := X) (by omega) hX.2 (by omega)
        have hys := new_size S R 1 (UInt8.ofNat (R.size % 256)) (UInt8.ofNat (R.size / 256)) (UInt8.ofNat (m % 256)) (UInt8.ofNat (m / 256)) R.size (Nat.le_refl _)
        have hqs := new_size S R 1 (UInt8.ofNat (R.size % 256)) (UInt8.ofNat (R.size / 256)) (UInt8.ofNat (X % 256)) (UInt8.ofNat (X / 256)) R.size (Nat.le_refl _)
        have hxt : R.extract 0 R.size = R := by simp
        rw [hxt] at hlast hbad hys hqs
        clear hxt
        generalize S ++ ⟨#[1, UInt8.ofNat (R.size % 256), UInt8.ofNat (R.size / 256)]⟩ ++ ⟨#[UInt8.ofNat (m % 256), UInt8.ofNat (m / 256)]⟩ ++ R = Y at hlast hys ⊢
        generalize S ++ ⟨#[1, UInt8.ofNat (R.size % 256), UInt8.ofNat (R.size / 256)]⟩ ++ ⟨#[UInt8.ofNat (X % 256), UInt8.ofNat (X / 256)]⟩ ++ R = Q at hbad hqs ⊢
        have hord5 := hord.below hb5 h0
        have h05 := Nat.lt_of_lt_of_le h0 hb5.size
        go_wp2_with fail
        refine (ginflate_any Y w5 (by omega) h05 hord5).mono ?_
        rintro e6 w6 ⟨he6, hb6⟩
        rw [hlast] at he6
        subst he6
        have hord6 := hord5.below hb6 h05
        have h06 := Nat.lt_of_lt_of_le h05 hb6.size
        go_wp2_with fail
        refine (ginflate_any Q w6 (by omega) h06 hord6).mono ?_
        rintro e7 w7 ⟨he7, hb7⟩
        rw [hbad] at he7
        subst he7
        have hB7 : Below w.heap.size w w7 := hb5.trans ((hb6.mono hb5.size).trans (hb7.mono (Nat.le_trans hb5.size hb6.size)))
        go_wp2
        go_ret
        exact ⟨rfl, hB7⟩
    · have hlt' : ¬ ((k : Int) < (lenN : Int)) := by omega
      go_wp2_with fail
      refine (pick_any bit 16 _ hb1 hb2 (by omega) (by omega)).mono ?_
      rintro e w2 ⟨rfl, rfl⟩
      obtain ⟨kk, hkk⟩ := Int.eq_ofNat_of_zero_le hpk.1
      rw [hkk] at hpk ⊢
      clear hkk
      have cv3 : ∀ w' : World, (convert 32 9 (.slice (some ⟨w'.heap.size, 0, none⟩) 3 3)).run Tryd.prog (w'.alloc (.cells #[.int .u8 1, .int .u8 ((R.size : Int) % 256), .int .u8 ((R.size : Int) / 256)] 5)) = .ok (.string ⟨#[1, UInt8.ofNat (R.size % 256), UInt8.ofNat (R.size / 256)]⟩) (w'.alloc (.cells #[.int .u8 1, .int .u8 ((R.size : Int) % 256), .int .u8 ((R.size : Int) / 256)] 5)) := conv3 1 R.size (by omega)
      obtain ⟨m, hm⟩ : ∃ m : Nat, 65535 - (R.size : Int) = (m : Int) := ⟨65535 - R.size, by omega⟩
      have cm0 : ∀ w' : World, (convert 32 9 (.slice (some ⟨w'.heap.size, 0, none⟩) 2 2)).run Tryd.prog (w'.alloc (.cells #[.int .u8 ((m : Int) % 256), .int .u8 ((m : Int) / 256)] 5)) = .ok (.string ⟨#[UInt8.ofNat (m % 256), UInt8.ofNat (m / 256)]⟩) (w'.alloc (.cells #[.int .u8 ((m : Int) % 256), .int .u8 ((m : Int) / 256)] 5)) := fun w' => conv2 m (by omega) w' 0
      have cm1 : ∀ w' : World, (convert 32 9 (.slice (some ⟨w'.heap.size, 0, none⟩) 2 2)).run Tryd.prog (w'.alloc (.cells #[.int .u8 ((m : Int) % 256), .int .u8 ((m : Int) / 256)] 5)).drew = .ok (.string ⟨#[UInt8.ofNat (m % 256), UInt8.ofNat (m / 256)]⟩) (w'.alloc (.cells #[.int .u8 ((m : Int) % 256), .int .u8 ((m : Int) / 256)] 5)).drew := fun w' => conv2 m (by omega) w' 1
      go_wp2_with fail
      have hb3 : Below w.heap.size w (w2.alloc (.cells #[.int .u8 1, .int .u8 ((R.size : Int) % 256), .int .u8 ((R.size : Int) / 256)] 5)) := below.alloc below.size _
      generalize w2.alloc (.cells #[.int .u8 1, .int .u8 ((R.size : Int) % 256), .int .u8 ((R.size : Int) / 256)] 5) = w3 at hb3 ⊢
      have hK := pow_wrap kk (by omega)
      have hX := xor_other m kk (by omega) (by omega)
      have hxx := bits_xor_i64 m (2 ^ kk) (by omega) (pow_lt16 kk (by omega)).2
      generalize m ^^^ 2 ^ kk = X at hX hxx
      generalize 2 ^ kk = K at hK hxx ⊢
      have cx0 : ∀ w' : World, (convert 32 9 (.slice (some ⟨w'.heap.size, 0, none⟩) 2 2)).run Tryd.prog (w'.alloc (.cells #[.int .u8 ((X : Int) % 256), .int .u8 ((X : Int) / 256)] 5)) = .ok (.string ⟨#[UInt8.ofNat (X % 256), UInt8.ofNat (X / 256)]⟩) (w'.alloc (.cells #[.int .u8 ((X : Int) % 256), .int .u8 ((X : Int) / 256)] 5)) := fun w' => conv2 X hX.2 w' 0
      have cx1 : ∀ w' : World, (convert 32 9 (.slice (some ⟨w'.heap.size, 0, none⟩) 2 2)).run Tryd.prog (w'.alloc (.cells #[.int .u8 ((X : Int) % 256), .int .u8 ((X : Int) / 256)] 5)).drew = .ok (.string ⟨#[UInt8.ofNat (X % 256), UInt8.ofNat (X / 256)]⟩) (w'.alloc (.cells #[.int .u8 ((X : Int) % 256), .int .u8 ((X : Int) / 256)] 5)).drew := fun w' => conv2 X hX.2 w' 1
      go_region
      have hb4 : Below w.heap.size w (w3.alloc (.cells #[.int .u8 ((m : Int) % 256), .int .u8 ((m : Int) / 256)] 5)).drew := (hb3.alloc hb3.size _).drew
      generalize (w3.alloc (.cells #[.int .u8 ((m : Int) % 256), .int .u8 ((m : Int) / 256)] 5)).drew = w4 at hb4 ⊢
      go_wp2_with fail
      go_region
      have hb5 : Below w.heap.size w (w4.alloc (.cells #[.int .u8 ((X : Int) % 256), .int .u8 ((X : Int) / 256)] 5)).drew := (hb4.alloc hb4.size _).drew
      generalize (w4.alloc (.cells #[.int .u8 ((X : Int) % 256), .int .u8 ((X : Int) / 256)] 5)).drew = w5 at hb5 ⊢
      clear hb3 hb4 cv3 cm0 cm1 cx0 cx1
      have hlast := hkr.last (n := R.size) (m := m) hT rfl (by omega)
      have hbad := hkr.bad (n := R.size) (X := X) (by omega) hX.2 (by omega)
      have hys := new_size S R 1 (UInt8.ofNat (R.size % 256)) (UInt8.ofNat (R.size / 256)) (UInt8.ofNat (m % 256)) (UInt8.ofNat (m / 256)) R.size (Nat.le_refl _)
      have hqs := new_size S R 1 (UInt8.ofNat (R.size % 256)) (UInt8.ofNat (R.size / 256)) (UInt8.ofNat (X % 256)) (UInt8.ofNat (X / 256)) R.size (Nat.le_refl _)
      have hxt : R.extract 0 R.size = R := by simp
      rw [hxt] at hlast hbad hys hqs
      clear hxt
      generalize S ++ ⟨#[1, UInt8.ofNat (R.size % 256), UInt8.ofNat (R.size / 256)]⟩ ++ ⟨#[UInt8.ofNat (m % 256), UInt8.ofNat (m / 256)]⟩ ++ R = Y at hlast hys ⊢
      generalize S ++ ⟨#[1, UInt8.ofNat (R.size % 256), UInt8.ofNat (R.size / 256)]⟩ ++ ⟨#[UInt8.ofNat (X % 256), UInt8.ofNat (X / 256)]⟩ ++ R = Q at hbad hqs ⊢
      have hord5 := hord.below hb5 h0
      have h05 := Nat.lt_of_lt_of_le h0 hb5.size
      go_wp2_with fail
      refine (ginflate_any Y w5 (by omega) h05 hord5).mono ?_
      rintro e6 w6 ⟨he6, hb6⟩
      rw [hlast] at he6
      subst he6
      have hord6 := hord5.below hb6 h05
      have h06 := Nat.lt_of_lt_of_le h05 hb6.size
      go_wp2_with fail
      refine (ginflate_any Q w6 (by omega) h06 hord6).mono ?_
      rintro e7 w7 ⟨he7, hb7⟩
      rw [hbad] at he7
      subst he7
      have hB7 : Below w.heap.size w w7 := hb5.trans ((hb6.mono hb5.size).trans (hb7.mono (Nat.le_trans hb5.size hb6.size)))
      go_wp2
      go_ret
      exact ⟨rfl, hB7⟩

end Go.Proofs.YtecddphahiadlaaDoor
