/- The program's Write and Deflate. -/
import Derived.Test.YtnfghnolklhppaaWrS
namespace Go.Proofs.Ytnfghnolklhppaa
open Go.RowKit

/-- What Deflate answers of a text that is not too long. -/
structure DefOk (T S : ByteArray) : Prop where
  run : ∃ p, runF S = ⟨p, T.data.toList, 0, true⟩ ∧ (p + 7) / 8 = S.size
  one : 1 ≤ S.size
  len : S.size ≤ T.size + T.size / 8 + 16
  uni : Uni T → S.size ≤ T.size / 20 + 32
  le : S.size ≤ 100000

theorem size_of_list (l : List UInt8) : (⟨l.toArray⟩ : ByteArray).size = l.length := by simp [ByteArray.size]

theorem def_ok {T : ByteArray} {bs b1 : List UInt8} {b : List Nat} (hT : T.size ≤ 5000) (hA : AllR T T.size b) (hp : PB b1 ([1] ++ numB 1 2 ++ (b ++ symB 256))) (hs : PB bs ([1] ++ numB 0 2 ++ List.replicate 5 0 ++ numB T.size 16 ++ numB (65535 - T.size) 16)) :
    ((⟨(bs ++ T.data.toList).toArray⟩ : ByteArray).size < (⟨b1.toArray⟩ : ByteArray).size → DefOk T ⟨(bs ++ T.data.toList).toArray⟩) ∧ (¬ (⟨(bs ++ T.data.toList).toArray⟩ : ByteArray).size < (⟨b1.toArray⟩ : ByteArray).size → DefOk T ⟨b1.toArray⟩) := by
  have hl : T.data.toList.length = T.size := Array.length_toList
  have h1 := hp.len
  have h7 : (symB 256).length = 7 := by rw [symB_length]; rfl
  simp only [List.length_append, numB_length, List.length_singleton, h7] at h1
  have r1 := hA.dec.whole hp
  rw [pre_whole] at r1
  rw [← hl] at hs
  obtain ⟨h5, r2⟩ := stored_whole (by omega) hs
  rw [hl] at r2
  have hsz : (bs ++ T.data.toList).length = 5 + T.size := by rw [List.length_append]; omega
  have hb32 := hA.len
  simp only [size_of_list, hsz]
  refine ⟨fun hc => ⟨⟨_, r2, ?_⟩, ?_, ?_, fun hu => ?_, ?_⟩, fun hc => ⟨⟨_, r1, ?_⟩, ?_, ?_, fun hu => ?_, ?_⟩⟩ <;> simp only [size_of_list, hsz]
  · omega
  · omega
  · omega
  · have := hA.short hu
    omega
  · omega
  · omega
  · omega
  · omega
  · have := hA.short hu
    omega
  · omega

def DefPost (w : World) (T : ByteArray) (e : Ending) (w' : World) : Prop := ∃ S, DefOk T S ∧ e = .returned (.string S) ∧ Below w.heap.size w w'

set_option maxHeartbeats 400000 in
theorem write_any (T : ByteArray) (w : World) (hT : T.size ≤ 5000) : Calls Try.prog 19 #[.string T] w (DefPost w T) := by
  go_enter Try.func19, Try.ntmps19
  go_wp2_with fail
  refine (wcoded_any T _ hT).mono ?_
  rintro e w1 ⟨b1, b, hA, hp, rfl, hb1⟩
  go_wp2_with fail
  refine (wstored_any T _ hT).mono ?_
  rintro e w2 ⟨bs, hs, rfl, hb2⟩
  have hB := hb1.trans (hb2.mono hb1.size)
  obtain ⟨d1, d2⟩ := def_ok hT hA hp hs
  clear hA hp hs hb1 hb2
  generalize (⟨(bs ++ T.data.toList).toArray⟩ : ByteArray) = S1 at d1 d2 ⊢
  generalize (⟨b1.toArray⟩ : ByteArray) = S2 at d1 d2 ⊢
  by_cases hc : S1.size < S2.size
  · have D := d1 hc
    clear d1 d2
    go_wp2
    go_ret
    exact ⟨S1, D, rfl, hB⟩
  · have D := d2 hc
    clear d1 d2
    go_wp2
    go_ret
    exact ⟨S2, D, rfl, hB⟩

def DeflPost (w : World) (T : ByteArray) (e : Ending) (w' : World) : Prop :=
  (5000 < T.size ∧ e = .returned (.tuple #[.string .empty, .int .i64 3]) ∧ w' = w) ∨ (T.size ≤ 5000 ∧ ∃ S, DefOk T S ∧ e = .returned (.tuple #[.string S, .int .i64 0]) ∧ Below w.heap.size w w')

set_option maxHeartbeats 400000 in
theorem deflate_any (T : ByteArray) (w : World) : Calls Try.prog 11 #[.string T] w (DeflPost w T) := by
  by_cases hT : T.size ≤ 5000
  · have hI : ¬ (5000 : Int) < (T.size : Int) := by omega
    go_enter Try.func11, Try.ntmps11
    go_wp2_with fail
    refine (write_any T _ hT).mono ?_
    rintro e w1 ⟨S, hD, rfl, hb⟩
    go_wp2
    go_ret2
    exact Or.inr ⟨hT, S, hD, rfl, hb⟩
  · have hI : (5000 : Int) < (T.size : Int) := by omega
    go_enter Try.func11, Try.ntmps11
    go_wp2
    go_ret2
    exact Or.inl ⟨by omega, rfl, rfl⟩

end Go.Proofs.Ytnfghnolklhppaa
