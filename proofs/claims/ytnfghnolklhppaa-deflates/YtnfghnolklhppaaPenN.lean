/- The program's pen: number, code, whole, begin. -/
import Derived.Test.YtnfghnolklhppaaPenW
import Derived.Test.YtnfghnolklhppaaDecF
namespace Go.Proofs.Ytnfghnolklhppaa
open Go.RowKit

theorem RunsP.refl {B : Nat} {w : World} {gx : Nat} {b : List Nat} {vs vd vb : Value} (h : Pn B w gx b vs vd vb) : RunsP B w w gx b vs vd vb :=
  ⟨vb, h, Kp.refl _ _ _, fun _ hg => Or.inl hg⟩

theorem RunsP.trans {B : Nat} {w w1 w2 : World} {gx : Nat} {b2 : List Nat} {vs vd vb vb1 : Value} (k1 : Kp w w1 gx vb) (f1 : ∀ g, vb1.ownBlock = some g → vb.ownBlock = some g ∨ w.heap.size ≤ g) (h2 : RunsP B w1 w2 gx b2 vs vd vb1) : RunsP B w w2 gx b2 vs vd vb := by
  obtain ⟨vb2, s2, k2, f2⟩ := h2
  refine ⟨vb2, s2, ⟨k2.os.trans k1.os, k2.tape.trans k1.tape, k2.output.trans k1.output, Nat.le_trans k1.size k2.size, fun b hb hx hv => ?_⟩, fun g hg => ?_⟩
  · rw [k2.block b (Nat.lt_of_lt_of_le hb k1.size) hx (fun e => ?_), k1.block b hb hx hv]
    rcases f1 b e with e' | e'
    · exact hv e'
    · omega
  · rcases f2 g hg with e | e
    · exact f1 g e
    · exact Or.inr (Nat.le_trans k1.size e)

theorem shr_one (v i : Nat) (hv : v < 9223372036854775808) : bits BinOp.and IntKind.i64 ((v : Int) / 2 ^ i) 1 = ((v / 2 ^ i % 2 : Nat) : Int) := by
  have e : (v : Int) / 2 ^ i = ((v / 2 ^ i : Nat) : Int) := by simp
  rw [e, and_one_i64 _ (Nat.lt_of_le_of_lt (Nat.div_le_self _ _) hv)]

set_option maxHeartbeats 400000 in
theorem pnum_any (B gx v n : Nat) (b : List Nat) (vs vd vb : Value) (w : World) (h : Pn B w gx b vs vd vb) (hB : B ≤ w.heap.size) (hl : b.length + n ≤ 1000000) (hv : v < 65536) (hn : n ≤ 16) :
    Calls Try.prog 44 #[.pointer (some ⟨gx, 0, none⟩), .int .i64 (v : Int), .int .i64 (n : Int)] w fun e w' => e = .returned (.tuple #[]) ∧ RunsP B w w' gx (b ++ numB v n) vs vd vb := by
  have R0 : RunsP B w w gx (b ++ numB v 0) vs vd vb := by have := RunsP.refl h; simpa [numB] using this
  clear h
  go_enter Try.func44, Try.ntmps44
  go_wp2
  go_loopw [8] (fun k wr => ∃ i : Nat, i ≤ n ∧ k = .int .i64 (i : Nat) ∧ RunsP B w wr gx (b ++ numB v i) vs vd vb) (fun k _ => n - (intOf k).toNat)
  case atStart => exact ⟨0, by omega, rfl, R0⟩
  case round =>
    obtain ⟨i, hi, rfl, hrel⟩ := hrel
    clear R0
    by_cases hlt : i < n
    · have hb := shr_one v i (by omega)
      obtain ⟨vb1, hp, hk, hf⟩ := hrel
      have hx : v / 2 ^ i % 2 < 2 := Nat.mod_lt _ (by omega)
      obtain ⟨x, hxe⟩ : ∃ x, x = v / 2 ^ i % 2 := ⟨_, rfl⟩
      rw [← hxe] at hb hx
      have HX : Hid (x = v / 2 ^ i % 2) := hxe
      clear hxe
      have hi16 : i < 16 := by omega
      go_wp2_with fail
      refine (pbit_any B gx x (b ++ numB v i) vs vd vb1 _ hp (Nat.le_trans hB hk.size) (by rw [List.length_append, numB_length]; omega) hx).mono ?_
      rintro e w' ⟨rfl, hr⟩
      have R := RunsP.trans hk hf hr
      rw [List.append_assoc, HX.out, ← numB_snoc] at R
      clear hr hp hk hf
      go_wp2
      go_roundw
      case rel => exact ⟨i + 1, by omega, by go_num, R⟩
      case measure => simp [intOf]; omega
    · obtain rfl : i = n := by omega
      go_wp2
      go_end0
      exact ⟨rfl, hrel⟩

theorem codeB_snoc (x m : Nat) : ∀ i, i ≤ m → (List.range i).map (fun j => bitAt x m j) = (codeB x m).take i := by
  intro i hi
  unfold codeB
  rw [← List.map_take, List.take_range, Nat.min_eq_left hi]

set_option maxHeartbeats 400000 in
theorem pcode_any (B gx x m : Nat) (b : List Nat) (vs vd vb : Value) (w : World) (h : Pn B w gx b vs vd vb) (hB : B ≤ w.heap.size) (hl : b.length + m ≤ 1000000) (hm : m ≤ 15) :
    Calls Try.prog 42 #[.pointer (some ⟨gx, 0, none⟩), .string (bitsB x m)] w fun e w' => e = .returned (.tuple #[]) ∧ RunsP B w w' gx (b ++ codeB x m) vs vd vb := by
  have R0 : RunsP B w w gx (b ++ (codeB x m).take 0) vs vd vb := by have := RunsP.refl h; simpa using this
  have hsz := bitsB_size x m
  have hat : ∀ i, i < m → ((bitsB x m).data.toList.getD i 0).toNat = 48 + bitAt x m i := fun i hi => by
    show ((bitsL x m).toArray.toList.getD i 0).toNat = _
    rw [List.getD_eq_getElem?_getD]
    simp only [bitsL, List.getElem?_map, List.getElem?_range hi, Option.map_some, Option.getD_some]
    have := bitAt_lt x m i
    rw [UInt8.toNat_ofNat']
    omega
  generalize bitsB x m = t at hsz hat
  clear h
  go_enter Try.func42, Try.ntmps42
  go_wp2
  go_loopw [7] (fun k wr => ∃ i : Nat, i ≤ m ∧ k = .int .i64 (i : Nat) ∧ RunsP B w wr gx (b ++ (codeB x m).take i) vs vd vb) (fun k _ => m - (intOf k).toNat)
  case atStart => exact ⟨0, by omega, rfl, R0⟩
  case round =>
    obtain ⟨i, hi, rfl, hrel⟩ := hrel
    clear R0
    by_cases hlt : i < m
    · have hir : ∀ wq, _ := fun wq => index_run t i (i : Int) rfl (by omega) wq
      rw [hat i hlt] at hir
      obtain ⟨vb1, hp, hk, hf⟩ := hrel
      have hx : bitAt x m i < 2 := bitAt_lt _ _ _
      have HT : Hid ((codeB x m).take (i + 1) = (codeB x m).take i ++ [bitAt x m i]) := by
        show _ = _
        rw [← codeB_snoc x m i (by omega), ← codeB_snoc x m (i + 1) (by omega), List.range_succ]
        simp
      generalize bitAt x m i = y at hir hx HT
      go_wp2_with fail
      rw [show (48 + (y : Int) - 48) = (y : Int) from by omega]
      refine (pbit_any B gx y (b ++ (codeB x m).take i) vs vd vb1 _ hp (Nat.le_trans hB hk.size) (by rw [List.length_append, List.length_take, codeB_length]; omega) hx).mono ?_
      rintro e w' ⟨rfl, hr⟩
      have R := RunsP.trans hk hf hr
      rw [List.append_assoc, ← HT.out] at R
      clear hr hp hk hf hir
      go_wp2
      go_roundw
      case rel => exact ⟨i + 1, by omega, by go_num, R⟩
      case measure => simp [intOf]; omega
    · obtain rfl : i = m := by omega
      rw [List.take_of_length_le (by rw [codeB_length]; omega)] at hrel
      go_wp2
      go_end0
      exact ⟨rfl, hrel⟩

theorem Pn.whole {B : Nat} {w : World} {gx : Nat} {b : List Nat} {vs vd vb : Value} (h : Pn B w gx b vs vd vb) {k : Nat} (hk : (b.length + k) % 8 = 0) (hk8 : k < 8) : Pn B (w.setCell ⟨gx, 1, none⟩ (.int .i64 0)) gx (b ++ List.replicate k 0) vs vd vb := by
  obtain ⟨bs, hpb, hown⟩ := h.own
  refine ⟨h.le, (h.row.set 1 _).congr (fun i _ => ?_), ⟨bs, hpb.whole hk hk8, ?_⟩, h.ne⟩
  · rw [List.length_append, List.length_replicate, hk]
    by_cases e1 : i = 1
    · subst e1; simp
    · rw [if_neg e1]
      by_cases e0 : i = 0
      · rw [if_pos e0, if_pos e0]
      · rw [if_neg e0, if_neg e0, if_neg e1, if_neg e1]
  · obtain ⟨q1, q2⟩ := hown
    refine ⟨q1, ?_⟩
    rcases q2 with q2 | ⟨g, cap, cur, hv, hg, hh, r⟩
    · exact Or.inl q2
    · exact Or.inr ⟨g, cap, cur, hv, hg, by rw [Below.heap_setCell _ _ _ _ (by intro e; exact h.ne (by rw [hv]; show some g = some gx; rw [e]))]; exact hh, r⟩

set_option maxHeartbeats 400000 in
theorem pwhole_any (B gx k : Nat) (b : List Nat) (vs vd vb : Value) (w : World) (h : Pn B w gx b vs vd vb) (hk : (b.length + k) % 8 = 0) (hk8 : k < 8) :
    Calls Try.prog 43 #[.pointer (some ⟨gx, 0, none⟩)] w fun e w' => e = .returned (.tuple #[]) ∧ RunsP B w w' gx (b ++ List.replicate k 0) vs vd vb := by
  have c1 := h.c1
  have f1 := h.fz 1
  have R := h.whole hk hk8
  clear hk
  go_enter Try.func43, Try.ntmps43
  go_wp2
  go_end0
  exact ⟨rfl, vb, R, (Kp.refl _ _ _).set 1 _, fun _ hg => Or.inl hg⟩

set_option maxHeartbeats 400000 in
theorem pbegin_any (B gx k : Nat) (vs vd vb : Value) (w : World) (h : Pn B w gx [] vs vd vb) (hB : B ≤ w.heap.size) (hk : k < 4) :
    Calls Try.prog 40 #[.pointer (some ⟨gx, 0, none⟩), .int .i64 (k : Int)] w fun e w' => e = .returned (.tuple #[]) ∧ RunsP B w w' gx ([1] ++ numB k 2) vs vd vb := by
  go_enter Try.func40, Try.ntmps40
  go_wp2_with fail
  refine (pbit_any B gx 1 [] vs vd vb _ h hB (by simp) (by omega)).mono ?_
  rintro e w1 ⟨rfl, vb1, hp, hkp, hf⟩
  go_wp2_with fail
  refine (pnum_any B gx k 2 ([] ++ [1]) vs vd vb1 _ hp (Nat.le_trans hB hkp.size) (by simp) (by omega) (by omega)).mono ?_
  rintro e w2 ⟨rfl, hr⟩
  have R := RunsP.trans hkp hf hr
  clear hr hp hkp hf
  go_wp2
  go_end0
  exact ⟨rfl, R⟩

end Go.Proofs.Ytnfghnolklhppaa
