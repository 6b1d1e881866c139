/- A line of the statements: all. -/
import Derived.Test.YtecddphahiadlaaGreatDoorCLinC
import Derived.Deep.CutBlock
namespace Go.Proofs.YtecddphahiadlaaGreatDoor
open Go.RowKit

/-- A line, whose reader has A. -/
def LnS (w0 w : World) (gl gw gr N : Nat) (Q : Nat → List UInt8) (tk wd : Nat) (L : List UInt8) (n : Nat) (closed : Bool) (X : ByteArray) (P : Nat → List UInt8) (j : Nat) : Prop :=
  ∃ k A R, MLn w0 w gl gw gr N k Q tk wd L n closed A R ∧ LnI N k Q tk L n closed A R X P j

/-- So many are set. -/
def setN (v : Nat) (f : Nat → Nat) (m : Nat) : Nat → Nat := fun d => if d < m then v else f d
theorem setN_zero (v : Nat) (f : Nat → Nat) : setN v f 0 = f := by
  funext d
  unfold setN
  rw [if_neg (by omega)]
theorem setN_succ (v : Nat) (f : Nat → Nat) (m : Nat) : (fun d => if d = m then v else setN v f m d) = setN v f (m + 1) := by
  funext d
  unfold setN
  by_cases h : d = m
  · rw [if_pos h, if_pos (by omega)]
  · rw [if_neg h]
    by_cases q : d < m
    · rw [if_pos q, if_pos (by omega)]
    · rw [if_neg q, if_neg (by omega)]

theorem MLn.setOne {w0 w : World} {gl gw gr N : Nat} {k : Lk} {Q : Nat → List UInt8} {tk wd : Nat} {L : List UInt8} {n : Nat} {closed : Bool} {A : ByteArray} {R : Nat → List UInt8} {v : Nat} {f : Nat → Nat} {m : Nat}
    (h : MLn w0 w gl gw gr N { k with waiting := setN v f m } Q tk wd L n closed A R) (hm : m < 8) : MLn w0 (w.setCell ⟨gl, 20 + m, none⟩ (.int .i64 (v : Nat))) gl gw gr N { k with waiting := setN v f (m + 1) } Q tk wd L n closed A R := by
  have q := h.setWaiting m hm v
  rw [← setN_succ]
  exact q

set_option maxRecDepth 8000 in
set_option maxHeartbeats 400000 in
theorem all_any {w0 w : World} {gl gw gr N : Nat} {k : Lk} {Q : Nat → List UInt8} {tk wd : Nat} {L : List UInt8} {n : Nat} {closed : Bool} {A : ByteArray} {R : Nat → List UInt8} {X : ByteArray} {P : Nat → List UInt8} {j : Nat}
    (h : MLn w0 w gl gw gr N k Q tk wd L n closed A R) (hI : LnI N k Q tk L n closed A R X P j) (hN1 : 1 ≤ N) (hQ : ∀ c, c < N → Q c = []) (hx : X.size ≤ 1073741824) (h0 : 1 < w0.heap.size) (hord : OrdIn w0 1) :
    Calls Tryz.prog 13 #[.pointer (some ⟨gl, 0, none⟩)] w fun e w' => e = .returned (.bool true) ∧ LnS w0 w' gl gw gr N Q tk wd [] n closed X P j := by
  have hN8 := h.few
  have hsz := hI.size.2
  have H0 : MLn w0 w gl gw gr N { k with waiting := setN 0 k.waiting 0 } Q tk wd L n closed A R := by rw [setN_zero]; exact h
  have hI8 : LnI N { k with waiting := setN 0 k.waiting 8 } Q tk L n closed A R X P j := hI.waits _ (fun c hc => by
    unfold setN
    rw [if_pos (by omega), hQ c hc]
    exact ⟨Nat.le_refl _, by omega⟩)
  clear h hI
  go_enter Tryz.func13, Tryz.ntmps13
  go_wp2_with fail
  go_loopw [3] (fun i wr => ∃ m : Nat, m ≤ 8 ∧ i = .int .i64 (m : Nat) ∧ MLn w0 wr gl gw gr N { k with waiting := setN 0 k.waiting m } Q tk wd L n closed A R) (fun i _ => 8 - (intOf i).toNat)
  case atStart => exact ⟨0, by omega, rfl, H0⟩
  case round =>
    clear H0
    obtain ⟨m, hm, rfl, hM⟩ := hrel
    by_cases hlt : m < 8
    · have a1 := hM.cell (20 + m) (by omega)
      rw [(lnCell_at N gw gr _ m hlt).2.2] at a1
      obtain ⟨a1, a1f⟩ := a1
      have R1 := hM.setOne hlt
      have h00 : ((0 : Nat) : Int) = 0 := rfl
      rw [h00] at R1
      have hmI : (m : Int) < 8 := by omega
      clear hM h00 hI8
      go_wp2_with fail
      go_roundw
      case rel => exact ⟨m + 1, by omega, by go_num, R1⟩
      case measure => simp [intOf]; omega
    · obtain rfl : m = 8 := by omega
      have HC : Hid (_) := carry_any hM hI8 (by omega) 1073741824 (by omega) (by omega) h0 hord
      obtain ⟨_, _, hI9⟩ := hI8.carried (1073741824 : Int).toNat
      have e1 : L.take (1073741824 : Int).toNat = L := List.take_of_length_le (by show L.length ≤ 1073741824; omega)
      have e2 : L.drop (1073741824 : Int).toNat = [] := List.drop_of_length_le (by show L.length ≤ 1073741824; omega)
      rw [e1, e2] at HC hI9
      clear e1 e2
      have eX : A ++ ⟨L.toArray⟩ = X := bytes_ext (by rw [list_app]; exact hI8.all)
      rw [eX] at HC hI9
      clear hI8 eX hM
      go_wp2_with fail
      refine Calls.mono HC.out ?_
      rintro e w1 ⟨rfl, h1⟩
      clear HC
      have H1 : LnS w0 w1 gl gw gr N Q tk wd [] n closed X P j := ⟨_, _, _, h1, hI9⟩
      clear h1 hI9
      go_wp2_with fail
      obtain ⟨wo, rfl⟩ : ∃ wo : World, wo = wr := ⟨_, rfl⟩
      go_loopw [6] (fun i wr => ∃ c : Nat, c ≤ N ∧ i = .int .i64 (c : Nat) ∧ LnS w0 wr gl gw gr N Q tk wd [] n closed X P j) (fun i _ => N - (intOf i).toNat)
      case atStart => exact ⟨0, Nat.zero_le _, rfl, H1⟩
      case round =>
        clear H1
        obtain ⟨c, hc, rfl, k1, A1, R1, h1, hI1⟩ := hrel
        have c0 := (h1.cell 0 (by omega)).1
        rw [(lnCell_fix N gw gr k1).1] at c0
        by_cases hlt : c < N
        · obtain ⟨z, hz⟩ := h1.got
          have hc8 : c < 8 := by omega
          have HR : Hid (_) := reads_any h1 hI1 hN1 (c : Int) c (by omega) (by omega) (by unfold pickN; rw [if_neg (by omega), Int.emod_eq_of_lt (by omega) (by omega)]) 1073741824 (by omega) (by omega)
          have hr2 := hI1.readAll hQ c (1073741824 : Int).toNat hlt (by show 5000 ≤ 1073741824; omega) hz
          have hI2 := (hI1.readC c (1073741824 : Int).toNat hlt hz).1
          clear h1 hI1 hz z
          go_wp2_with fail
          refine Calls.mono HR.out ?_
          rintro e w2 ⟨rfl, h2⟩
          have a1 := (h2.cell (11 + c) (by omega)).1
          have a2 := (h2.cell (3 + c) (by omega)).1
          rw [(lnCell_at N gw gr _ c hc8).2.1] at a1
          rw [(lnCell_at N gw gr _ c hc8).1] at a2
          simp only [if_true] at a1 a2
          rw [hr2] at a1
          have H2d : ∀ q, LnS w0 (w2.drewN q) gl gw gr N Q tk wd [] n closed X P j := fun q => ⟨_, _, _, h2.drewN q, hI2⟩
          generalize k1.taken c = ta at a1 a2
          have hcI : (c : Int) < 8 := by omega
          clear HR h2 hI2 hr2 c0
          go_wp2_with fail
          go_big_quiet (fail)
          go_wp2_with fail
          go_roundw
          case rel => exact ⟨c + 1, by omega, by go_num, H2d _⟩
          case measure => simp [intOf]; omega
        · obtain rfl : c = N := by omega
          have H2 : LnS w0 wr gl gw gr c Q tk wd [] n closed X P j := ⟨_, _, _, h1, hI1⟩
          clear h1 hI1
          go_wp2
          go_ret
          exact ⟨rfl, H2⟩

end Go.Proofs.YtecddphahiadlaaGreatDoor
