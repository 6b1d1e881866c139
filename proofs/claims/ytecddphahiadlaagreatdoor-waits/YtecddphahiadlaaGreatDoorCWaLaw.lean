/- Waits: the walk. -/
import Derived.Test.YtecddphahiadlaaGreatDoorCLinA
namespace Go.Proofs.YtecddphahiadlaaGreatDoor
open Go.RowKit

/-- At most so many bytes of a text. -/
def cutM (t : ByteArray) (m : Nat) : ByteArray := if m < t.size then t.extract 0 m else t
theorem cutM_size (t : ByteArray) (m : Nat) : (cutM t m).size ≤ m := by
  unfold cutM
  split
  · rw [ByteArray.size_extract]; omega
  · omega

set_option maxHeartbeats 400000 in
theorem kcut_any (t : ByteArray) (m : Nat) (w : World) (_ht : t.size ≤ maxLen) (hm : m ≤ 5000) :
    Calls Tryz.prog 16 #[.string t, .int .i64 (m : Nat)] w fun e w' => e = .returned (.string (cutM t m)) ∧ w' = w := by
  unfold maxLen at _ht
  by_cases hc : m < t.size
  · have HS : Hid (cutM t m = t.extract 0 m) := by show _ = _; unfold cutM; rw [if_pos hc]
    go_enter Tryz.func16, Tryz.ntmps16
    go_wp2
    go_ret
    exact ⟨by rw [HS.out]; first | rfl | simp, rfl⟩
  · have HS : Hid (cutM t m = t) := by show _ = _; unfold cutM; rw [if_neg hc]
    go_enter Tryz.func16, Tryz.ntmps16
    go_wp2
    go_ret
    exact ⟨by rw [HS.out]; rfl, rfl⟩

def nilQ : Nat → List UInt8 := fun _ => []

/-- Ahead of the third tick: bytes wait, nothing was sent. -/
def WaA (w0 w : World) (gl gw gr N i : Nat) : Prop :=
  ∃ k Q tk, MLn w0 w gl gw gr N k Q tk i [] 0 false .empty nilQ ∧ LnI N k Q tk [] 0 false .empty nilQ .empty nilQ 0 ∧ 0 < sumL N Q
/-- Behind it. -/
def WaB (w0 w : World) (gl gw gr N : Nat) : Prop :=
  ∃ k tk L n X P, MLn w0 w gl gw gr N k nilQ tk 0 L n false .empty nilQ ∧ LnI N k nilQ tk L n false .empty nilQ X P 1

/-- Bytes are written. -/
theorem WaA.writes {w0 w : World} {gl gw gr N i : Nat} (h : WaA w0 w gl gw gr N i) (hN1 : 1 ≤ N) (ch : Int) (S : ByteArray) (h1 : -9223372036854775808 ≤ ch) (h2 : ch ≤ 9223372036854775807) (hS : S.size ≤ 5000) :
    Calls Tryz.prog 17 #[.pointer (some ⟨gl, 0, none⟩), .int .i64 ch, .string S] w fun e w' => e = .returned (.bool true) ∧ WaA w0 w' gl gw gr N i := by
  obtain ⟨k, Q, tk, hm, hI, hs⟩ := h
  have hbd := pickN_bd ch N (by omega)
  obtain ⟨c, hc⟩ := Int.eq_ofNat_of_zero_le hbd.1
  have hcN : c < N := by omega
  have hw := hI.wt c hcN
  have ht := hI.most
  refine (hm.writes ch c S _ h1 h2 hN1 hc.symm rfl (hI.few c hcN) hI.most hI.total hw.1 (by omega) (by have := hI.taken_few c hcN; omega) (by omega)).mono ?_
  rintro e w' ⟨he, h3⟩
  refine ⟨he, _, _, _, h3, hI.wrote c hcN S _ rfl, ?_⟩
  rw [sumL_upd]
  omega
theorem waA_first {w0 w : World} {gl gw gr N : Nat} (h : MLn w0 w gl gw gr N lk0 (fun _ => []) 0 0 [] 0 false .empty (fun _ => [])) (hN1 : 1 ≤ N) (S : ByteArray) (hS : S.size ≤ 5000) (hS1 : 1 ≤ S.size) :
    Calls Tryz.prog 17 #[.pointer (some ⟨gl, 0, none⟩), .int .i64 0, .string S] w fun e w' => e = .returned (.bool true) ∧ WaA w0 w' gl gw gr N 0 := by
  have hI := lnI_new N
  refine (h.writes 0 0 S _ (by omega) (by omega) hN1 (by unfold pickN; simp) rfl (by simp) (by omega) rfl (by simp) (by show 0 ≤ 5000; omega) (by show ByteArray.empty.size ≤ 5000; decide) (by omega)).mono ?_
  rintro e w' ⟨he, h3⟩
  refine ⟨he, _, _, _, h3, hI.wrote 0 (by omega) S _ rfl, ?_⟩
  have q := sumL_upd (fun _ => []) 0 (List.take (takenN ([] : List UInt8).length 0 S.size) S.data.toList) N
  rw [if_pos (by omega), List.length_take, ← size_list] at q
  rw [q]
  unfold takenN
  simp only [List.length_nil]
  omega
theorem WaA.wire {w0 w : World} {gl gw gr N i : Nat} (h : WaA w0 w gl gw gr N i) : (∃ gwv, gwv = gw ∧ w.cell? ⟨gl, 1, none⟩ = some (.pointer (some ⟨gw, 0, none⟩))) ∧
    Calls Tryz.prog 19 #[.pointer (some ⟨gw, 0, none⟩), .int .i64 1073741824] w fun e w' => e = .returned (.string .empty) ∧ WaA w0 w' gl gw gr N i := by
  obtain ⟨k, Q, tk, hm, hI, hs⟩ := h
  refine ⟨⟨gw, rfl, (hm.cell 1 (by omega)).1⟩, ?_⟩
  refine (hm.wire 1073741824 (by omega) (by omega) (by omega)).mono ?_
  rintro e w' ⟨he, h3⟩
  rw [List.take_nil] at he
  rw [List.drop_nil] at h3
  exact ⟨he, k, Q, tk, h3, hI, hs⟩
theorem WaA.tick {w0 w : World} {gl gw gr N i : Nat} (h : WaA w0 w gl gw gr N i) (hN1 : 1 ≤ N) (hi : i ≤ 2) : w.cell? ⟨gl, 1, none⟩ = some (.pointer (some ⟨gw, 0, none⟩)) ∧
    Calls Tryz.prog 20 #[.pointer (some ⟨gw, 0, none⟩)] w fun e w' => e = .returned (.tuple #[]) ∧ (i < 2 → WaA w0 w' gl gw gr N (i + 1)) ∧ (i = 2 → WaB w0 w' gl gw gr N) := by
  obtain ⟨k, Q, tk, hm, hI, hs⟩ := h
  have h1 := hI.sent
  have h2 := hI.most
  refine ⟨(hm.cell 1 (by omega)).1, ?_⟩
  refine (hm.tick hs hN1 (by omega) (by omega) hi).mono ?_
  rintro e w' ⟨he, ha, hb⟩
  refine ⟨he, fun q => ⟨k, Q, tk, ha q, hI, hs⟩, fun q => ?_⟩
  obtain ⟨T, S, hc, ht, hp, h3⟩ := hb q
  exact ⟨k, tk, _, _, _, _, h3, hI.flushed hc ht hp⟩

set_option maxRecDepth 8000 in
set_option maxHeartbeats 1000000 in
theorem waits_law (c : Int) (first second : ByteArray) (at_ : Int) (w : World) (h1 : -9223372036854775808 ≤ c) (h2 : c ≤ 9223372036854775807) (h3 : -9223372036854775808 ≤ at_) (h4 : at_ ≤ 9223372036854775807) (hf : first.size ≤ maxLen) (hs : second.size ≤ maxLen) (h0 : 1 < w.heap.size) (hord : OrdIn w 1) :
    Calls Tryz.prog 5 #[.int .i64 c, .string first, .string second, .int .i64 at_] w fun e w' => e = .returned (.bool true) ∧ Below w.heap.size w w' := by
  obtain ⟨N, hN⟩ : ∃ N : Nat, (N : Int) = 1 + pickN c 8 := ⟨(1 + pickN c 8).toNat, by have := pickN_bd c 8 (by omega); omega⟩
  have hbd := pickN_bd c 8 (by omega)
  have hN1 : 1 ≤ N := by omega
  have hN8 : N ≤ 8 := by omega
  clear hbd
  go_enter Tryz.func5, Tryz.ntmps5
  go_wp2_with fail
  refine (mln_new h1 h2 hN w).mono ?_
  rintro e w1 ⟨gl, gw, gr, rfl, hm⟩
  clear hN h1 h2
  go_wp2_with fail
  refine (kcut_any first 150 _ hf (by omega)).mono ?_
  rintro e w2 ⟨rfl, rfl⟩
  have hz1 := cutM_size first 150
  generalize cutM first 150 = fi at hz1 ⊢
  obtain ⟨F, hF⟩ : ∃ F, F = (⟨#[120]⟩ : ByteArray) ++ fi := ⟨_, rfl⟩
  have hF1 : F.size = 1 + fi.size := by rw [hF, ByteArray.size_append]; rfl
  have HW : Hid (_) := waA_first hm hN1 F (by omega) (by omega)
  clear hm
  go_wp2_with fail
  rw [← hF]
  clear hF
  refine Calls.mono HW.out ?_
  rintro e w3 ⟨rfl, hA⟩
  clear HW
  go_wp2_with fail
  refine (pick_any at_ 3 _ h3 h4 (by omega) (by omega)).mono ?_
  rintro e w4 ⟨rfl, rfl⟩
  have hp3 := (pickN_bd at_ 3 (by omega)).2
  obtain ⟨p, hp⟩ := Int.eq_ofNat_of_zero_le (pickN_bd at_ 3 (by omega)).1
  rw [hp] at hp3 ⊢
  clear hp
  go_wp2_with fail
  go_loopw [12] (fun i wr => ∃ m : Nat, m ≤ 3 ∧ i = .int .i64 (m : Nat) ∧ (m ≤ 2 → WaA w wr gl gw gr N m) ∧ (m = 3 → WaB w wr gl gw gr N)) (fun i _ => 3 - (intOf i).toNat)
  case atStart => exact ⟨0, by omega, rfl, fun _ => hA, fun q => by omega⟩
  case round =>
    clear hA
    obtain ⟨m, hm, rfl, hA, hB⟩ := hrel
    by_cases hlt : m < 3
    · have hA := hA (by omega)
      have hmI : (m : Int) < 3 := by omega
      clear hB
      by_cases hmp : m = p
      · have hmpI : ((m : Int) == (p : Int)) = true := by rw [beq_iff_eq]; omega
        go_wp2_with fail
        refine (kcut_any second 40 _ hs (by omega)).mono ?_
        rintro e w5 ⟨rfl, rfl⟩
        have hz2 := cutM_size second 40
        generalize cutM second 40 = se at hz2 ⊢
        have HW : Hid (_) := hA.writes hN1 at_ se h3 h4 (by omega)
        clear hA
        go_wp2_with fail
        refine Calls.mono HW.out ?_
        rintro e w8 ⟨rfl, hA⟩
        clear HW
        obtain ⟨⟨_, _, c1⟩, HWi0⟩ := hA.wire
        have HWi : Hid (_) := HWi0
        clear HWi0 hA
        go_wp2_with fail
        refine Calls.mono HWi.out ?_
        rintro e w6 ⟨rfl, hA6⟩
        obtain ⟨c6, HT0⟩ := hA6.tick hN1 (by omega)
        have HT : Hid (_) := HT0
        clear HT0 HWi hA6 c1
        go_wp2_with fail
        refine Calls.mono HT.out ?_
        rintro e w7 ⟨rfl, ha, hb⟩
        clear HT c6
        go_wp2_with fail
        go_roundw
        case rel => exact ⟨m + 1, by omega, by go_num, fun q => ha (by omega), fun q => hb (by omega)⟩
        case measure => simp [intOf]; omega
      · have hmpI : ((m : Int) == (p : Int)) = false := by rw [beq_eq_false_iff_ne]; omega
        obtain ⟨⟨_, _, c1⟩, HWi0⟩ := hA.wire
        have HWi : Hid (_) := HWi0
        clear HWi0 hA
        go_wp2_with fail
        refine Calls.mono HWi.out ?_
        rintro e w6 ⟨rfl, hA6⟩
        obtain ⟨c6, HT0⟩ := hA6.tick hN1 (by omega)
        have HT : Hid (_) := HT0
        clear HT0 HWi hA6 c1
        go_wp2_with fail
        refine Calls.mono HT.out ?_
        rintro e w7 ⟨rfl, ha, hb⟩
        clear HT c6
        go_wp2_with fail
        go_roundw
        case rel => exact ⟨m + 1, by omega, by go_num, fun q => ha (by omega), fun q => hb (by omega)⟩
        case measure => simp [intOf]; omega
    · obtain rfl : m = 3 := by omega
      have hB := hB rfl
      clear hA
      obtain ⟨k, tk, L, n, X, P, hM, hI⟩ := hB
      have hxs := hI.size.1
      have hbl := hM.below
      have HAL : Hid (_) := all_any hM hI hN1 (fun _ _ => rfl) (by omega) h0 hord
      clear hM hI
      go_wp2_with fail
      refine Calls.mono HAL.out ?_
      rintro e w5 ⟨rfl, k5, A5, R5, h5, hI5⟩
      have hnn := hI5.nn
      have HT : Hid (_) := h5.tickNone (sumL_nil N)
      have HWi : Hid (_) := h5.wire 1073741824 (by omega) (by omega) (by omega)
      have c1 : w5.cell? ⟨gl, 1, none⟩ = some (.pointer (some ⟨gw, 0, none⟩)) := (h5.cell 1 (by omega)).1
      clear HAL h5 hI5
      go_wp2_with fail
      refine Calls.mono HT.out ?_
      rintro e w6 ⟨rfl, rfl⟩
      go_wp2_with fail
      refine Calls.mono HT.out ?_
      rintro e w7 ⟨rfl, rfl⟩
      go_wp2_with fail
      refine Calls.mono HT.out ?_
      rintro e w8 ⟨rfl, rfl⟩
      go_wp2_with fail
      refine Calls.mono HWi.out ?_
      rintro e w9 ⟨rfl, h9⟩
      have hbl9 := h9.below
      rw [List.take_nil]
      clear HT HWi c1 h9
      go_wp2
      go_ret
      exact ⟨rfl, hbl9⟩

end Go.Proofs.YtecddphahiadlaaGreatDoor
