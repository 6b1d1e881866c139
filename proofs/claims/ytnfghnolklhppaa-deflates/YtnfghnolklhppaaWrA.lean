/- The program's writer: all. -/
import Derived.Test.YtnfghnolklhppaaWrL
import Derived.Test.YtnfghnolklhppaaAllF
import Derived.Test.YtnfghnolklhppaaPastR
namespace Go.Proofs.Ytnfghnolklhppaa
open Go.RowKit

theorem Wr.later {B : Nat} {w w1 : World} {gx : Nat} {b : List Nat} {gs gd : Nat} {vb : Value} (h : Wr B w gx b gs gd vb) (hb : Below w.heap.size w w1) : Wr B w1 gx b gs gd vb := by
  obtain ⟨bs, hpb, q1, q2⟩ := h.pn.own
  refine ⟨⟨h.pn.le, h.pn.row.of_block (hb.block gx h.pn.row.lt), ⟨bs, hpb, q1, ?_⟩, h.pn.ne⟩, h.syms.of_block (hb.block gs h.syms.lt), h.diss.of_block (hb.block gd h.diss.lt), h.ns, h.nd⟩
  rcases q2 with q2 | ⟨g, cap, cur, hv, hg, hh, r⟩
  · exact Or.inl q2
  · exact Or.inr ⟨g, cap, cur, hv, hg, (hb.block g (Array.getElem?_eq_some_iff.1 hh).1).trans hh, r⟩
theorem kp_of_below {w w1 : World} (hb : Below w.heap.size w w1) (gx : Nat) (vb : Value) : Kp w w1 gx vb := ⟨hb.os, hb.tape, hb.output, hb.size, fun b h _ _ => hb.block b h⟩

/-- In the loop of all. -/
structure WAR (B : Nat) (w1 wr : World) (gx : Nat) (b0 : List Nat) (gs gd : Nat) (vb : Value) (T : ByteArray) (a : Nat) : Prop where
  run : ∃ b, AllR T a b ∧ RunsW B w1 wr gx (b0 ++ b) gs gd vb

theorem WAR.block {B : Nat} {w1 wr : World} {gx : Nat} {b0 : List Nat} {gs gd : Nat} {vb : Value} {T : ByteArray} {a : Nat} (h : WAR B w1 wr gx b0 gs gd vb T a) {g : Nat} (hg : g < w1.heap.size) (hx : g ≠ gx) (hv : vb.ownBlock ≠ some g) : wr.heap[g]? = w1.heap[g]? := by
  obtain ⟨b, _, vb', _, hk, _⟩ := h.run
  exact hk.block g hg hx hv

set_option maxRecDepth 4000 in
set_option maxHeartbeats 2000000 in
theorem wall_any (B gx gs gd : Nat) (b0 : List Nat) (vb : Value) (T : ByteArray) (w : World) (h : Wr B w gx b0 gs gd vb) (hB : B ≤ w.heap.size) (hl : b0.length ≤ 1000) (hT : T.size ≤ 5000) :
    Calls Try.prog 41 #[.pointer (some ⟨gx, 0, none⟩), .string T] w fun e w' => e = .returned (.tuple #[]) ∧ ∃ b, AllR T T.size b ∧ RunsW B w w' gx (b0 ++ b) gs gd vb := by
  go_enter Try.func41, Try.ntmps41
  go_wp2_with fail
  refine (remember_any T _ hT).mono ?_
  rintro e w1 ⟨ge, z, rfl, hge, hI, hE, hb1⟩
  have hb2 : Below w.heap.size w (w1.alloc (.cells #[.string T, .slice (some ⟨ge, 0, none⟩) T.size T.size] 89)) := hb1.alloc hb1.size _
  have h2 := h.later hb2
  have hk2 := kp_of_below hb2 gx vb
  have hIb : IntsAt (w1.alloc (.cells #[.string T, .slice (some ⟨ge, 0, none⟩) T.size T.size] 89)) ge 0 T.size z := hI.later ((Below.refl _ _).alloc (Nat.le_refl _) _)
  have hbox : (w1.alloc (.cells #[.string T, .slice (some ⟨ge, 0, none⟩) T.size T.size] 89)).heap[w1.heap.size]? = some (.cells #[.string T, .slice (some ⟨ge, 0, none⟩) T.size T.size] 89 (0, 0)) := heap_alloc_last w1 _
  have hs1 := hb1.size
  have hgx := h.pn.row.lt
  have hvn : ∀ g, vb.ownBlock = some g → g < w.heap.size := fun g e => by
    obtain ⟨bs, _, hown⟩ := h.pn.own
    exact (hown.lt g e).2
  have R0 : WAR B (w1.alloc (.cells #[.string T, .slice (some ⟨ge, 0, none⟩) T.size T.size] 89)) (w1.alloc (.cells #[.string T, .slice (some ⟨ge, 0, none⟩) T.size T.size] 89)) gx b0 gs gd vb T 0 := ⟨[], AllR.start T, by rw [List.append_nil]; exact RunsW.refl h2⟩
  have hw2 : w1.heap.size < (w1.alloc (.cells #[.string T, .slice (some ⟨ge, 0, none⟩) T.size T.size] 89)).heap.size := by simp
  go_wp2
  generalize w1.alloc (.cells #[.string T, .slice (some ⟨ge, 0, none⟩) T.size T.size] 89) = W at hb2 h2 hk2 hIb hbox R0 hw2 ⊢
  obtain ⟨gb, hgb⟩ : ∃ gb, gb = w1.heap.size := ⟨_, rfl⟩
  rw [← hgb] at hbox hw2 ⊢
  have hWw := hb2.size
  have nb : gb ≠ gx ∧ vb.ownBlock ≠ some gb := ⟨by omega, fun e => by have := hvn _ e; omega⟩
  have ne : ge ≠ gx ∧ vb.ownBlock ≠ some ge := ⟨by omega, fun e => by have := hvn _ e; omega⟩
  clear hb1 hs1 hI h hgb hvn hge hb2
  go_loopw [5] (fun x wr => ∃ a : Nat, x = .int .i64 (a : Nat) ∧ WAR B W wr gx b0 gs gd vb T a) (fun x _ => T.size - (intOf x).toNat)
  case atStart => exact ⟨0, rfl, R0⟩
  case round =>
    obtain ⟨a, rfl, hrel⟩ := hrel
    clear R0
    obtain ⟨b, hA, hR⟩ := hrel.run
    have haT := hA.le
    by_cases hlt : a < T.size
    · have hrow : wr.heap[gb]? = _ := (hrel.block hw2 nb.1 nb.2).trans hbox
      have hIr : IntsAt wr ge 0 T.size z := ⟨fun i hi => by
        have e := hIb.cell i hi
        simp only [World.cell?] at e ⊢
        rw [hrel.block hIb.lt ne.1 ne.2]; exact e, by
        obtain ⟨_, _, _, _, hk, _⟩ := hrel.run
        exact Nat.lt_of_lt_of_le hIb.lt hk.size⟩
      have hsz : (Try.prog.info? 89).map (·.size) = some (#[Value.string T, .slice (some ⟨ge, 0, none⟩) T.size T.size]).size := Try.size89
      have hlen := hA.len
      obtain ⟨vb1, hW1, hk1, hf1⟩ := hR
      have hB1 : B ≤ wr.heap.size := Nat.le_trans (Nat.le_trans hB hWw) hk1.size
      clear hrel
      go_wp2_with (first | (refine wpList_load_row_g rfl 89 (.tmp 4) rfl gb rfl 89 #[.string T, .slice (some ⟨ge, 0, none⟩) T.size T.size] (0, 0) _ hrow Try.underlying89 rfl hsz ?_) | fail)
      refine (longest_any a ge T.size z T _ hT hlt hE hIr).mono ?_
      rintro e w3 ⟨l, d, rfl, hL, hb3⟩
      have hW3 := hW1.later hb3
      have hk3 := hk1.andThen hf1 (kp_of_below hb3 gx vb1)
      have hB3 : B ≤ w3.heap.size := Nat.le_trans hB1 hb3.size
      have hf3 : ∀ g, vb1.ownBlock = some g → vb.ownBlock = some g ∨ W.heap.size ≤ g := hf1
      clear hk1 hf1 hW1 hb3 hrow hIr hsz
      by_cases hl0 : l = 0
      · subst hl0
        have hA2 := hA.lit hT hlt hL
        have c2 := hW3.pn.c2
        have hir : ∀ wq, _ := fun wq => index_run T a (a : Int) rfl hlt wq
        have hc256 := (tb T a).toNat_lt
        have HT : Hid ((T.data.toList.getD a 0).toNat = (tb T a).toNat) := rfl
        rw [HT.out] at hir
        generalize (tb T a).toNat = c at hir hc256 hA2
        have cs := hW3.syms.cell (i := c) (by omega)
        have hcI : (c : Int) < 288 := by omega
        clear hL
        go_wp2
        go_region_with (go_at_call 42; refine (wsym_any B gx gs gd c (b0 ++ b) vb1 w3 _ rfl hW3 hB3 (by rw [List.length_append]; omega) (by omega)).mono ?_; rintro e w4 ⟨rfl, hr⟩)
        all_goals
          have R := RunsW.trans hk3 hf3 hr
          rw [List.append_assoc] at R
          clear hr hW3 hk3 hf3 c2 cs
          go_wp2
          go_roundw
          case rel => exact ⟨a + 1, by go_num, ⟨_, hA2, R⟩⟩
          case measure => simp [intOf]; omega
      · have hlI : ¬ (l : Int) = 0 := by omega
        have hg : Good T a l d := by
          rcases hL with ⟨e, _⟩ | e
          · exact absurd e hl0
          · exact e
        have hg1 := hg.1
        have hg2 := hg.2.1
        have hg3 := hg.2.2.1
        have hg4 := hg.2.2.2.1
        have hg5 := hg.2.2.2.2.1
        have HGd : Hid (Good T a l d) := hg
        clear hL hg
        go_wp2_with fail
        refine (wlen_any B gx gs gd l (b0 ++ b) vb1 _ hW3 hB3 (by rw [List.length_append]; omega) hg1 hg2).mono ?_
        rintro e w4 ⟨rfl, p, hp, vb4, hW4, hk4, hf4⟩
        have HPl : Hid (l ≠ 258 → PlL (l - 3) p) := hp
        have hlb := lenB_le l p hp
        clear hp
        go_wp2_with fail
        refine (wdist_any B gx gs gd d ((b0 ++ b) ++ lenB l p) vb4 _ hW4 (Nat.le_trans hB3 hk4.size) (by simp only [List.length_append]; omega) hg4 (by omega)).mono ?_
        rintro e w5 ⟨rfl, q, hq, hr⟩
        have R := RunsW.trans hk3 hf3 (RunsW.trans hk4 hf4 hr)
        have hA2 := hA.pair hT HGd.out HPl.out hq
        rw [List.append_assoc, List.append_assoc] at R
        clear hr hW3 hk3 hf3 hW4 hk4 hf4 hq hlb
        go_wp2
        go_roundw
        case rel => exact ⟨a + l, by go_num, ⟨_, hA2, R⟩⟩
        case measure => simp [intOf]; omega
    · obtain rfl : a = T.size := by omega
      have R := RunsW.trans hk2 (fun _ hg => Or.inl hg) hR
      clear hrel
      go_wp2
      go_end0
      exact ⟨rfl, b, hA, R⟩

end Go.Proofs.Ytnfghnolklhppaa
