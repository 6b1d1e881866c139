/- Flows: the walk. -/
import Derived.Test.YtecddphahiadlaaGreatDoorCFlB
import Derived.Test.YtecddphahiadlaaGreatDoorCGInf
namespace Go.Proofs.YtecddphahiadlaaGreatDoor
open Go.RowKit

theorem inf_end {N : Nat} {X : ByteArray} {P : Nat → List UInt8} (h : Sent N X P true) : infAns X = .tuple #[.string ⟨(runF X).text.toArray⟩, .int .i64 (X.size : Nat), .int .i64 0] ∧ ansF N X = 0 := by
  obtain ⟨h1, h2⟩ := h.done rfl
  refine ⟨?_, (h.part ⟨Nat.le_refl _, fun _ _ => rfl⟩).1⟩
  unfold infAns
  rw [if_pos h1, h2]

theorem write_none (Q : Nat → List UInt8) (t : Nat) : (fun d => if d = 0 then Q 0 ++ (ByteArray.empty.data.toList).take t else Q d) = Q := by
  funext d
  by_cases h : d = 0
  · rw [if_pos h, h]
    show Q 0 ++ List.take t [] = Q 0
    rw [List.take_nil, List.append_nil]
  · rw [if_neg h]

set_option maxRecDepth 8000 in
set_option maxHeartbeats 1000000 in
theorem flows_any (ch : Int) (ao : Option Addr) (lenN capN : Nat) (w : World) (kd cc nn : Nat → Int) (SS : Nat → ByteArray) (h1 : -9223372036854775808 ≤ ch) (h2 : ch ≤ 9223372036854775807) (hlen : lenN ≤ 1048576)
    (hscr : ∀ k, k < lenN → ∃ b off, ao = some ⟨b, off, none⟩ ∧ b < w.heap.size ∧ w.cell? ⟨b, off + k * 4, none⟩ = some (.int .i64 (kd k)) ∧ w.cell? ⟨b, off + k * 4 + 1, none⟩ = some (.int .i64 (cc k)) ∧ w.cell? ⟨b, off + k * 4 + 2, none⟩ = some (.int .i64 (nn k)) ∧ w.cell? ⟨b, off + k * 4 + 3, none⟩ = some (.string (SS k)))
    (hbd : ∀ k, k < lenN → (-9223372036854775808 ≤ kd k ∧ kd k ≤ 9223372036854775807) ∧ (-9223372036854775808 ≤ cc k ∧ cc k ≤ 9223372036854775807) ∧ (-9223372036854775808 ≤ nn k ∧ nn k ≤ 9223372036854775807) ∧ (SS k).size ≤ 140737488400000)
    (h0 : 1 < w.heap.size) (hord : OrdIn w 1) :
    Calls Tryz.prog 4 #[.int .i64 ch, .slice ao lenN capN] w fun e w' => e = .returned (.bool true) ∧ Below w.heap.size w w' := by
  obtain ⟨N, hN⟩ : ∃ N : Nat, (N : Int) = 1 + pickN ch 8 := ⟨(1 + pickN ch 8).toNat, by have := pickN_bd ch 8 (by omega); omega⟩
  have hpb := pickN_bd ch 8 (by omega)
  have hN1 : 1 ≤ N := by omega
  clear hpb
  go_enter Tryz.func4, Tryz.ntmps4
  go_wp2_with fail
  refine (fl_new h1 h2 hN w).mono ?_
  rintro e w1 ⟨gl, rfl, hm⟩
  clear hN h1 h2
  go_wp2_with fail
  go_loopw [6] (fun i wr => ∃ m : Nat, m ≤ lenN ∧ i = .int .i64 (m : Nat) ∧ FlI 200 w wr gl N m) (fun i _ => lenN - (intOf i).toNat)
  case atStart => exact ⟨0, by omega, rfl, hm⟩
  case round =>
    clear hm
    obtain ⟨m, hml, rfl, hM⟩ := hrel
    by_cases hlt : m < lenN
    · obtain ⟨b, off, hao, hbw, q0, q1, q2, q3⟩ := hscr m hlt
      obtain ⟨b0, b1, b2, b3⟩ := hbd m hlt
      have hbl := hM.below
      have c0 := (hbl.cell (p := ⟨b, off + m * 4, none⟩) hbw).trans q0
      have c1 := (hbl.cell (p := ⟨b, off + m * 4 + 1, none⟩) hbw).trans q1
      have c2 := (hbl.cell (p := ⟨b, off + m * 4 + 2, none⟩) hbw).trans q2
      have c3 := (hbl.cell (p := ⟨b, off + m * 4 + 3, none⟩) hbw).trans q3
      have HA : Hid (_) := act_any hM hN1 (by omega) (kd m) (cc m) (nn m) (SS m) b0.1 b0.2 b1.1 b1.2 b2.1 b2.2 b3 h0 hord
      rw [hao]
      have hmI : (m : Int) < (lenN : Int) := by omega
      clear q0 q1 q2 q3 b0 b1 b2 b3 hscr hbd hM hbl hao
      have HA' : Hid (Calls Tryz.prog 9 #[.pointer (some ⟨gl, 0, none⟩), .agg #[.int .i64 (kd m), .int .i64 (cc m), .int .i64 (nn m), .string (SS m)]] wr (ActP w gl N (m + 1))) := HA.out
      clear HA
      go_wp2_with fail
      refine Calls.mono HA'.out ?_
      rintro e w2 ⟨rfl, hM2⟩
      clear HA' c0 c1 c2 c3
      go_wp2_with fail
      go_roundw
      case rel => exact ⟨m + 1, by omega, by go_num, hM2⟩
      case measure => simp [intOf]; omega
    · obtain rfl : m = lenN := by omega
      clear hscr hbd
      obtain ⟨gw, gr, k, Q, tk, wd, L, n, A, R, X, P, hm, hI, hw, hq⟩ := hM
      have hal := hI.alive
      have HD : Hid (_) := hm.done
      rw [decide_eq_false (by rw [hal]; simp)] at HD
      have x1 : wr.cell? ⟨gl, 1, none⟩ = some (.pointer (some ⟨gw, 0, none⟩)) := (hm.cell 1 (by omega)).1
      have x2 : wr.cell? ⟨gl, 2, none⟩ = some (.pointer (some ⟨gr, 0, none⟩)) := (hm.cell 2 (by omega)).1
      have HW : Hid (_) := hm.write 0 .empty (by omega) (hI.few 0 (by omega)) hI.most (by show 0 ≤ _; omega)
      rw [write_none Q, show takenN (Q 0).length tk ByteArray.empty.size = 0 by unfold takenN; show min 0 _ = 0; omega, Nat.add_zero] at HW
      go_wp2_with fail
      refine Calls.mono HD.out ?_
      rintro e w2 ⟨rfl, rfl⟩
      go_wp2_with fail
      refine Calls.mono HW.out ?_
      rintro e w3 ⟨rfl, hm3⟩
      have y1 : w3.cell? ⟨gl, 1, none⟩ = some (.pointer (some ⟨gw, 0, none⟩)) := (hm3.cell 1 (by omega)).1
      have hs1 := hI.sent
      have hs2 := hI.most
      have hs3 := hI.nn
      have hs4 := hI.size.1
      have HC : Hid (_) := hm3.close hN1 (by omega) (by omega)
      clear HD HW x1 x2 hm hm3
      go_wp2_with fail
      refine Calls.mono HC.out ?_
      rintro e w4 ⟨T, S, rfl, hcu, hsz, hS, hm4⟩
      have hI4 := hI.ended hcu hsz hS
      have hs5 := hI4.size.1
      have HAL : Hid (_) := all_any hm4 hI4 hN1 (fun _ _ => rfl) (by omega) h0 hord
      clear HC y1 hcu hsz hS hm4 hI hI4 hal
      go_wp2_with fail
      refine Calls.mono HAL.out ?_
      rintro e w5 ⟨rfl, k5, A5, R5, hm5, hI5⟩
      clear HAL
      have eX : A5 = X ++ S := bytes_ext (by have := hI5.all; rw [List.append_nil] at this; exact this)
      subst eX
      generalize X ++ S = X5 at hm5 hI5 hs5
      obtain ⟨hinf, hans⟩ := inf_end hI5.full
      have hbl5 := hm5.below
      have HD5 : Hid (_) := hm5.done
      rw [decide_eq_true ⟨hans, (hI5.full.done rfl).1⟩] at HD5
      have HC5 : Hid (_) := hm5.closeShut
      have HW5 : Hid (_) := hm5.writeShut 0 ⟨#[97]⟩ (by omega)
      have HF5 : Hid (_) := hm5.flushShut
      have HI5 : Hid (_) := ginflate_any X5 w5 (by omega) (Nat.lt_of_lt_of_le h0 hbl5.size) (hord.later hbl5 h0)
      have x1 : w5.cell? ⟨gl, 1, none⟩ = some (.pointer (some ⟨gw, 0, none⟩)) := (hm5.cell 1 (by omega)).1
      have x2 : w5.cell? ⟨gl, 2, none⟩ = some (.pointer (some ⟨gr, 0, none⟩)) := (hm5.cell 2 (by omega)).1
      have x3 : w5.cell? ⟨gl, 28, none⟩ = some (.string X5) := by
        have q := (hm5.cell 28 (by omega)).1
        rw [(lnCell_fix N gw gr k5).2.2.2.2, hI5.wire] at q
        exact q
      have hgl5 : gl < w5.heap.size := by
        obtain ⟨Ww, Wr, q1, _, _⟩ := hm5
        exact q1.row.lt
      clear hm5 hI5 hans
      go_wp2_with fail
      refine Calls.mono HD5.out ?_
      rintro e w6 ⟨rfl, rfl⟩
      go_wp2_with fail
      refine Calls.mono HC5.out ?_
      rintro e w7 ⟨rfl, rfl⟩
      go_wp2_with fail
      refine Calls.mono HW5.out ?_
      rintro e w8 ⟨rfl, rfl⟩
      go_wp2_with fail
      refine Calls.mono HF5.out ?_
      rintro e w9 ⟨rfl, rfl⟩
      go_wp2_with fail
      refine Calls.mono HI5.out ?_
      rintro e w10 ⟨rfl, hb10⟩
      rw [hinf]
      have x4 : w10.cell? ⟨gl, 28, none⟩ = some (.string X5) := (hb10.cell (p := ⟨gl, 28, none⟩) hgl5).trans x3
      have hbl10 := hbl5.trans (hb10.mono hbl5.size)
      clear HD5 HC5 HW5 HF5 HI5 x1 x2 x3
      generalize (⟨(runF X5).text.toArray⟩ : ByteArray) = tx
      clear hinf
      go_wp2
      go_ret
      exact ⟨rfl, hbl10⟩

end Go.Proofs.YtecddphahiadlaaGreatDoor
