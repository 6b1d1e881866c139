/- Flows: a step of a script. -/
import Derived.Test.YtecddphahiadlaaGreatDoorCFlA
namespace Go.Proofs.YtecddphahiadlaaGreatDoor
open Go.RowKit

def stepV (kd ch n : Int) (S : ByteArray) : Value := .agg #[.int .i64 kd, .int .i64 ch, .int .i64 n, .string S]

def ActP (w0 : World) (gl N j : Nat) (e : Ending) (w' : World) : Prop := e = .returned (.bool true) ∧ FlI 200 w0 w' gl N j

set_option maxRecDepth 8000 in
set_option maxHeartbeats 400000 in
theorem act_any {w0 w : World} {gl N j : Nat} (h : FlI 200 w0 w gl N j) (hN1 : 1 ≤ N) (hj : j ≤ 2000000) (kd ch n : Int) (S : ByteArray) (hk1 : -9223372036854775808 ≤ kd) (hk2 : kd ≤ 9223372036854775807) (hc1 : -9223372036854775808 ≤ ch) (hc2 : ch ≤ 9223372036854775807) (hn1 : -9223372036854775808 ≤ n) (hn2 : n ≤ 9223372036854775807) (hS : S.size ≤ 140737488400000)
    (h0 : 1 < w0.heap.size) (hord : OrdIn w0 1) :
    Calls Tryz.prog 9 #[.pointer (some ⟨gl, 0, none⟩), stepV kd ch n S] w (ActP w0 gl N (j + 1)) := by
  unfold stepV
  obtain ⟨h', hgl⟩ := h.alloc (.cells #[.int .i64 kd, .int .i64 ch, .int .i64 n, .string S] 35)
  have hb : Below w.heap.size w (w.alloc (.cells #[.int .i64 kd, .int .i64 ch, .int .i64 n, .string S] 35)) := (Below.refl _ _).alloc (Nat.le_refl _) _
  have HB : Hid (_) := hb
  clear h hb
  rename FlI 200 w0 _ gl N j => h
  by_cases k1 : kd = 1
  · subst k1
    have HC : Hid (_) := h.writes hN1 ch S hc1 hc2 hS
    clear h
    go_enter Tryz.func9, Tryz.ntmps9
    go_wp2_with fail
    refine Calls.mono HC.out ?_
    rintro e w1 ⟨rfl, h1⟩
    have P0 : ActP w0 gl N (j + 1) (.returned (.bool true)) w1 := ⟨rfl, h1⟩
    clear HC h1
    go_wp2
    go_ret
    exact P0
  by_cases k2 : kd = 2
  · subst k2
    obtain ⟨gw, c1, HC0⟩ := h.flush hN1 hj
    have HC : Hid (_) := HC0
    have c1w : w.cell? ⟨gl, 1, none⟩ = some (.pointer (some ⟨gw, 0, none⟩)) := (HB.out.cell (p := ⟨gl, 1, none⟩) hgl).symm.trans c1
    clear h HC0 HB
    go_enter Tryz.func9, Tryz.ntmps9
    go_wp2_with fail
    refine Calls.mono HC.out ?_
    rintro e w1 ⟨rfl, h1⟩
    have H0 := h1.setting
    clear HC h1 c1 c1w
    go_wp2_with fail
    go_loopw [6] (fun i wr => ∃ m : Nat, m ≤ 8 ∧ i = .int .i64 (m : Nat) ∧ FlW 0 w0 wr gl N (j + 1) m) (fun i _ => 8 - (intOf i).toNat)
    case atStart => exact ⟨0, by omega, rfl, H0⟩
    case round =>
      clear H0
      obtain ⟨m, hm, rfl, hM⟩ := hrel
      by_cases hlt : m < 8
      · obtain ⟨⟨x, a1⟩, a1f⟩ := hM.cell hlt
        have R1 := hM.step hlt
        have h00 : ((0 : Nat) : Int) = 0 := rfl
        rw [h00] at R1
        have hmI : (m : Int) < 8 := by omega
        clear hM h00
        go_wp2_with fail
        go_roundw
        case rel => exact ⟨m + 1, by omega, by go_num, R1⟩
        case measure => simp [intOf]; omega
      · obtain rfl : m = 8 := by omega
        have P0 : ActP w0 gl N (j + 1) (.returned (.bool true)) wr := ⟨rfl, (hM.set (by omega)).later (Nat.le_refl _)⟩
        clear hM
        go_wp2
        go_ret
        exact P0
  by_cases k3 : kd = 3
  · subst k3
    obtain ⟨gw, c1, HC0⟩ := h.tick hN1 hj
    have HC : Hid (_) := HC0
    have c1w : w.cell? ⟨gl, 1, none⟩ = some (.pointer (some ⟨gw, 0, none⟩)) := (HB.out.cell (p := ⟨gl, 1, none⟩) hgl).symm.trans c1
    clear h HC0 HB
    go_enter Tryz.func9, Tryz.ntmps9
    go_wp2_with fail
    refine Calls.mono HC.out ?_
    rintro e w1 ⟨rfl, h1⟩
    have H0 := h1.setting
    clear HC h1 c1 c1w
    go_wp2_with fail
    go_loopw [7] (fun i wr => ∃ m : Nat, m ≤ 8 ∧ i = .int .i64 (m : Nat) ∧ FlW 200 w0 wr gl N (j + 1) m) (fun i _ => 8 - (intOf i).toNat)
    case atStart => exact ⟨0, by omega, rfl, H0⟩
    case round =>
      clear H0
      obtain ⟨m, hm, rfl, hM⟩ := hrel
      by_cases hlt : m < 8
      · obtain ⟨⟨x, a1⟩, a1f⟩ := hM.cell hlt
        have R1 := hM.step hlt
        have h00 : ((200 : Nat) : Int) = 200 := rfl
        rw [h00] at R1
        have hmI : (m : Int) < 8 := by omega
        clear hM h00
        go_wp2_with fail
        go_roundw
        case rel => exact ⟨m + 1, by omega, by go_num, R1⟩
        case measure => simp [intOf]; omega
      · obtain rfl : m = 8 := by omega
        have P0 : ActP w0 gl N (j + 1) (.returned (.bool true)) wr := ⟨rfl, (hM.set (by omega)).later (Nat.le_refl _)⟩
        clear hM
        go_wp2
        go_ret
        exact P0
  by_cases k4 : kd = 4
  · subst k4
    have HC : Hid (_) := h.carry hj n hn2 hn1 h0 hord
    clear h
    go_enter Tryz.func9, Tryz.ntmps9
    go_wp2_with fail
    refine Calls.mono HC.out ?_
    rintro e w1 ⟨⟨x, rfl⟩, h1⟩
    have P0 : ActP w0 gl N (j + 1) (.returned (.bool true)) w1 := ⟨rfl, h1⟩
    clear HC h1
    go_wp2
    go_ret
    exact P0
  by_cases k5 : kd = 5
  · subst k5
    have HC : Hid (_) := h.reads hN1 ch hc2 hc1 n hn2 hn1
    clear h
    go_enter Tryz.func9, Tryz.ntmps9
    go_wp2_with fail
    refine Calls.mono HC.out ?_
    rintro e w1 ⟨rfl, h1⟩
    have P0 : ActP w0 gl N (j + 1) (.returned (.bool true)) w1 := ⟨rfl, h1⟩
    clear HC h1
    go_wp2
    go_ret
    exact P0
  by_cases k6 : kd = 6
  · subst k6
    obtain ⟨gw, c1, HC0⟩ := h.flush hN1 hj
    have HC : Hid (_) := HC0
    have c1w : w.cell? ⟨gl, 1, none⟩ = some (.pointer (some ⟨gw, 0, none⟩)) := (HB.out.cell (p := ⟨gl, 1, none⟩) hgl).symm.trans c1
    clear h HC0 HB
    go_enter Tryz.func9, Tryz.ntmps9
    go_wp2_with fail
    refine Calls.mono HC.out ?_
    rintro e w1 ⟨rfl, h1⟩
    have HA : Hid (_) := h1.all hN1 (by omega) h0 hord
    clear HC h1 c1 c1w
    go_wp2_with fail
    refine Calls.mono HA.out ?_
    rintro e w2 ⟨rfl, h2⟩
    have P0 : ActP w0 gl N (j + 1) (.returned (.bool true)) w2 := ⟨rfl, h2⟩
    clear HA h2
    go_wp2
    go_ret
    exact P0
  · have P0 : ActP w0 gl N (j + 1) (.returned (.bool true)) (w.alloc (.cells #[.int .i64 kd, .int .i64 ch, .int .i64 n, .string S] 35)) := ⟨rfl, h.later (Nat.le_succ j)⟩
    have d1 : (kd == 1) = false := by rw [beq_eq_false_iff_ne]; omega
    have d2 : (kd == 2) = false := by rw [beq_eq_false_iff_ne]; omega
    have d3 : (kd == 3) = false := by rw [beq_eq_false_iff_ne]; omega
    have d4 : (kd == 4) = false := by rw [beq_eq_false_iff_ne]; omega
    have d5 : (kd == 5) = false := by rw [beq_eq_false_iff_ne]; omega
    have d6 : (kd == 6) = false := by rw [beq_eq_false_iff_ne]; omega
    clear h
    go_enter Tryz.func9, Tryz.ntmps9
    go_wp2
    go_ret
    exact P0

end Go.Proofs.YtecddphahiadlaaGreatDoor
