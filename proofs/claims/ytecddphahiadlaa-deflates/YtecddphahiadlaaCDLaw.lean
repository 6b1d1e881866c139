/- Deflates: what the program writes is read by the document. -/
import Derived.Test.YtecddphahiadlaaCDefL
import Derived.Test.YtecddphahiadlaaCInf
namespace Go.Proofs.Ytecddphahiadlaa
open Go.RowKit

theorem numd_any (x : Int) (w : World) : Calls Try.prog 12 #[.int .i64 x] w fun e w' => e = .returned (.int .i64 x) ∧ w' = w := by
  go_enter Try.func12, Try.ntmps12
  go_wp2
  go_ret
  exact ⟨rfl, rfl⟩

def OnePost (w : World) (T : ByteArray) (e : Ending) (w' : World) : Prop := ∃ u : Bool, e = .returned (.bool u) ∧ (u = true → Uni T) ∧ Below w.heap.size w w'

set_option maxHeartbeats 400000 in
theorem one_any (T : ByteArray) (w : World) (hT : T.size ≤ 5000) : Calls Try.prog 14 #[.string T] w (OnePost w T) := by
  go_enter Try.func14, Try.ntmps14
  go_wp2
  go_loopw [3] (fun x wr => ∃ k : Nat, k ≤ T.size ∧ x = .int .i64 (k : Nat) ∧ (∀ i, i < k → tb T i = tb T 0) ∧ Below w.heap.size w wr) (fun x _ => T.size - (intOf x).toNat)
  case atStart => exact ⟨0, by omega, rfl, fun i h => by omega, Below.refl _ _⟩
  case round =>
    obtain ⟨k, hk, rfl, hs, hb⟩ := hrel
    by_cases hlt : k < T.size
    · have i1 : ∀ wq, _ := fun wq => index_run T k (k : Int) rfl hlt wq
      have i2 : ∀ wq, _ := fun wq => index_run T 0 0 rfl (by omega) wq
      by_cases he : tb T k = tb T 0
      · have S2 : ∀ i, i < k + 1 → tb T i = tb T 0 := fun i hi => by
          rcases (by omega : i < k ∨ i = k) with h | h
          · exact hs i h
          · subst h; exact he
        have HE : Hid ((T.data.toList.getD k 0).toNat = (T.data.toList.getD 0 0).toNat) := congrArg UInt8.toNat he
        rw [HE.out] at i1
        generalize (T.data.toList.getD 0 0).toNat = c at i1 i2
        clear he hs
        go_wp2
        go_big_quiet (fail)
        go_wp2
        go_roundw
        case rel => exact ⟨k + 1, by omega, by go_num, S2, below_drewN hb nq⟩
        case measure => simp [intOf]; omega
      · have hne : (T.data.toList.getD k 0).toNat ≠ (T.data.toList.getD 0 0).toNat := fun e => he (UInt8.toNat_inj.1 e)
        generalize (T.data.toList.getD k 0).toNat = c1 at i1 hne
        generalize (T.data.toList.getD 0 0).toNat = c2 at i2 hne
        have hbe : (((c1 : Int)) == ((c2 : Int))) = false := by rw [beq_eq_false_iff_ne]; omega
        clear he hne hs
        go_wp2
        go_big_quiet (fail)
        go_wp2
        go_ret
        exact ⟨false, rfl, fun h => absurd h (by simp), below_drewN hb nq⟩
    · obtain rfl : k = T.size := by omega
      go_wp2
      go_ret
      exact ⟨true, rfl, fun _ => hs, hb⟩

theorem inf_def {T S : ByteArray} (h : DefOk T S) : infAns S = .tuple #[.string T, .int .i64 (S.size : Nat), .int .i64 0] := by
  obtain ⟨p, hr, hp⟩ := h.run
  unfold infAns
  rw [hr]
  simp only [if_true, hp]

set_option maxRecDepth 4000 in
set_option maxHeartbeats 1000000 in
theorem deflates_any (T : ByteArray) (w : World) :
    Calls Try.prog 5 #[.string T] w fun e w' => e = .returned (.bool true) ∧ Below w.heap.size w w' := by
  go_enter Try.func5, Try.ntmps5
  go_wp2_with fail
  refine (deflate_any T _).mono ?_
  rintro e w1 (⟨hT, rfl, rfl⟩ | ⟨hT, S, hD, rfl, hb1⟩)
  · have hI : (5000 : Int) < (T.size : Int) := by omega
    go_wp2_with fail
    refine (numd_any 3 w1).mono ?_
    rintro e w2 ⟨rfl, rfl⟩
    go_wp2
    go_ret
    exact ⟨rfl, Below.refl _ _⟩
  · have hI : ¬ (5000 : Int) < (T.size : Int) := by omega
    have hle := hD.le
    go_wp2_with fail
    refine (inflate_any S _ (by omega)).mono ?_
    rintro e w2 ⟨rfl, hb2⟩
    rw [inf_def hD]
    have hB2 := hb1.trans (hb2.mono hb1.size)
    go_wp2_with fail
    refine (one_any T _ hT).mono ?_
    rintro e w3 ⟨u, rfl, hu, hb3⟩
    have hB3 := hB2.trans (hb3.mono hB2.size)
    have hlen := hD.len
    have huni := hD.uni
    have l1 : (S.size : Int) ≤ (T.size : Int) + (T.size : Int) / 8 + 16 := by omega
    cases u
    · clear hu huni hb1 hb2 hb3 hB2 hD hlen
      go_wp2
      go_ret
      exact ⟨rfl, hB3⟩
    · have h2 := huni (hu rfl)
      have l2 : (S.size : Int) ≤ (T.size : Int) / 20 + 32 := by omega
      clear hu huni hb1 hb2 hb3 hB2 hD hlen h2
      go_wp2
      go_ret
      exact ⟨rfl, hB3⟩

end Go.Proofs.Ytecddphahiadlaa
