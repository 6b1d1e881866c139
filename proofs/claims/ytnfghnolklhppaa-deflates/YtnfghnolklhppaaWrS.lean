/- The program's stored and coded. -/
import Derived.Test.YtnfghnolklhppaaWrA
import Derived.Lib.AppendStr
import Derived.Lib.Strings
import Derived.Lib.BufferRead
namespace Go.Proofs.Ytnfghnolklhppaa
open Go.RowKit

/-- A stream of one block of kind 0. -/
theorem stored_whole {t : List UInt8} (ht : t.length ≤ 5000) {bs : List UInt8} (hp : PB bs ([1] ++ numB 0 2 ++ List.replicate 5 0 ++ numB t.length 16 ++ numB (65535 - t.length) 16)) :
    bs.length = 5 ∧ runF ⟨(bs ++ t).toArray⟩ = ⟨8 * (5 + t.length), t, 0, true⟩ := by
  have hl := hp.len
  simp only [List.length_append, List.length_replicate, numB_length, List.length_singleton] at hl
  have hl5 : bs.length = 5 := by omega
  refine ⟨hl5, ?_⟩
  have hb : HasBits ⟨(bs ++ t).toArray⟩ 0 ([1] ++ numB 0 2 ++ List.replicate 5 0 ++ numB t.length 16 ++ numB (65535 - t.length) 16) := hp.has (r := t) (by simp)
  have hb1 := bit_read (b := []) hb.left.left.left.left [] false
  have hb2 := num_read (s := ⟨(bs ++ t).toArray⟩) [] false 2 0 1 (by decide) hb.left.left.left.right
  have hb3 : HasBits ⟨(bs ++ t).toArray⟩ 8 (numB t.length 16) := by
    have := hb.left.right
    simpa [numB_length] using this
  have hb4 : HasBits ⟨(bs ++ t).toArray⟩ 24 (numB (65535 - t.length) 16) := by
    have := hb.right
    simpa [numB_length] using this
  have hn1 := num_read (s := ⟨(bs ++ t).toArray⟩) [] false 16 t.length 8 (by omega) hb3
  have hn2 := num_read (s := ⟨(bs ++ t).toArray⟩) [] false 16 (65535 - t.length) 24 (by omega) hb4
  have hat : HasAt ⟨(bs ++ t).toArray⟩ 5 t := by
    have := HasAt.right (x := bs) (y := t) (HasAt.self (bs ++ t))
    rw [hl5] at this
    exact this
  have hby := bytes_run ⟨(bs ++ t).toArray⟩ false t 5 [] hat (by simp; omega)
  have hst : runStep ⟨(bs ++ t).toArray⟩ start = (false, ⟨8 * (5 + t.length), t, 0, true⟩) := by
    unfold runStep start
    rw [hb1]
    simp only [Nat.zero_add]
    rw [hb2]
    simp only [blockF, plainF]
    have hh : plainHead ⟨(bs ++ t).toArray⟩ ⟨1 + 2, [], 0, false⟩ = (t.length, ⟨40, [], 0, false⟩) := by
      unfold plainHead
      have ea : alignF ⟨1 + 2, [], 0, false⟩ = ⟨8, [], 0, false⟩ := rfl
      rw [ea, hn1]
      simp only [hn2]
      rw [if_neg (by simp; omega)]
    simp only [if_true, hh, show (40 : Nat) = 8 * 5 from rfl, hby, List.nil_append]
    simp
  unfold runF
  simp only [runGo]
  rw [if_pos ⟨rfl, rfl⟩, hst]
  simp only [Bool.false_eq_true, if_false]
  cases 8 * (⟨(bs ++ t).toArray⟩ : ByteArray).size with
  | zero => rfl
  | succ m => simp [runGo]

theorem conv_own {B : Nat} {w : World} {v : Value} {bs : List UInt8} (ho : w.ownsRow B 5 1 v bs.length (byteVals bs)) : (convert 57 9 v).run Try.prog w = .ok (.string ⟨bs.toArray⟩) w := by
  obtain ⟨h1, h2⟩ := ho
  rcases h2 with ⟨h2, h3⟩ | ⟨g, cap, cur, hv, _⟩
  · have e : bs = [] := List.eq_nil_of_length_eq_zero h3
    rw [h2, e]
    exact Go.Lib.run_convert_nil_bytes (P := Try.prog) _ 57 9 5 0 Try.underlying57 Try.underlying5 Try.underlying9
  · have ho : w.ownsRow B 5 1 v bs.length (byteVals bs) := ⟨h1, Or.inr ⟨g, cap, cur, hv, by assumption⟩⟩
    rw [hv]
    refine run_convert_bytes_back (P := Try.prog) w 57 9 5 ⟨g, 0, none⟩ cap bs Try.underlying57 Try.underlying5 Try.underlying9 (fun j hj => ?_)
    have e := ho.cells (g := g) (by rw [hv]; rfl) j _ (byteVals_at bs j hj)
    have e2 : bs.getD j 0 = bs[j] := by rw [List.getD_eq_getElem?_getD, List.getElem?_eq_getElem hj]; rfl
    rw [e2] at e
    exact e

/-- A new writer. -/
theorem pn_start (w : World) : Pn w.heap.size (w.alloc (.cells #[.slice none 0 0, .int .i64 0, .slice none 0 0, .slice none 0 0] 78)) w.heap.size [] (.slice none 0 0) (.slice none 0 0) (.slice none 0 0) := by
  refine ⟨Nat.le_refl _, ?_, ⟨[], PB.start, World.ownsRow_nil _ _ _ _⟩, fun e => by simp [Value.ownBlock] at e⟩
  exact World.rowIs_alloc w #[.slice none 0 0, .int .i64 0, .slice none 0 0, .slice none 0 0] 78 _ (fun i hi => by match i, hi with | 0, _ => rfl | 1, _ => rfl | 2, _ => rfl | 3, _ => rfl)

theorem below_of_kp {w w1 : World} {o : Obj} (h : Kp (w.alloc o) w1 w.heap.size (.slice none 0 0)) : Below w.heap.size w w1 := by
  refine ⟨h.os, h.tape, h.output, by have := h.size; simp at this; omega, fun b hb => ?_⟩
  rw [h.block b (by simp; omega) (by omega) (by simp [Value.ownBlock]), Below.heap_alloc w o b hb]

theorem pnum_int (B gx v n : Nat) (V : Int) (b : List Nat) (vs vd vb : Value) (w : World) (hV : V = (v : Int)) (h : Pn B w gx b vs vd vb) (hB : B ≤ w.heap.size) (hl : b.length + n ≤ 1000000) (hv : v < 65536) (hn : n ≤ 16) :
    Calls Try.prog 44 #[.pointer (some ⟨gx, 0, none⟩), .int .i64 V, .int .i64 (n : Int)] w fun e w' => e = .returned (.tuple #[]) ∧ RunsP B w w' gx (b ++ numB v n) vs vd vb := by
  subst hV; exact pnum_any B gx v n b vs vd vb w h hB hl hv hn

def StoPost (w : World) (T : ByteArray) (e : Ending) (w' : World) : Prop :=
  ∃ bs, PB bs ([1] ++ numB 0 2 ++ List.replicate 5 0 ++ numB T.size 16 ++ numB (65535 - T.size) 16) ∧ e = .returned (.string ⟨(bs ++ T.data.toList).toArray⟩) ∧ Below w.heap.size w w'

set_option maxRecDepth 4000 in
set_option maxHeartbeats 1000000 in
theorem wstored_any (T : ByteArray) (w : World) (hT : T.size ≤ 5000) : Calls Try.prog 28 #[.string T] w (StoPost w T) := by
  obtain ⟨i0, hi0, hz0, hs0, hby⟩ := info_parts Try.info5
  have h0 := pn_start w
  have hB0 : w.heap.size ≤ (w.alloc (.cells #[.slice none 0 0, .int .i64 0, .slice none 0 0, .slice none 0 0] 78)).heap.size := by simp
  go_enter Try.func28, Try.ntmps28
  go_wp2_with fail
  refine (pbegin_any w.heap.size w.heap.size 0 _ _ _ _ h0 hB0 (by omega)).mono ?_
  rintro e w1 ⟨rfl, v1, p1, k1, f1⟩
  clear h0
  go_wp2_with fail
  refine (pwhole_any w.heap.size w.heap.size 5 _ _ _ _ _ p1 (by simp [numB_length]) (by omega)).mono ?_
  rintro e w2 ⟨rfl, r2⟩
  obtain ⟨v2, p2, k2, f2⟩ := RunsP.trans k1 f1 r2
  clear r2 p1 k1 f1
  go_wp2_with fail
  refine (pnum_any w.heap.size w.heap.size T.size 16 _ _ _ _ _ p2 (Nat.le_trans hB0 k2.size) (by simp [numB_length]) (by omega) (by omega)).mono ?_
  rintro e w3 ⟨rfl, r3⟩
  obtain ⟨v3, p3, k3, f3⟩ := RunsP.trans k2 f2 r3
  clear r3 p2 k2 f2
  go_wp2_with fail
  refine (pnum_int w.heap.size w.heap.size (65535 - T.size) 16 _ _ _ _ _ _ (by omega) p3 (Nat.le_trans hB0 k3.size) (by simp [numB_length]) (by omega) (by omega)).mono ?_
  rintro e w4 ⟨rfl, r4⟩
  obtain ⟨v4, p4, k4, f4⟩ := RunsP.trans k3 f3 r4
  clear r4 p3 k3 f3
  have c0 := p4.c0
  obtain ⟨bs, hpb, hown⟩ := p4.own
  have hl := hpb.len
  simp only [List.length_append, List.length_replicate, numB_length, List.length_singleton] at hl
  have hl5 : bs.length ≤ 5 := by omega
  have hb4 := below_of_kp k4
  have hB4 := Nat.le_trans hB0 k4.size
  have hv4 : ∀ g, v4.ownBlock = some g → w.heap.size ≤ g := fun g e => (hown.lt g e).1
  clear hl p4 k4 f4
  go_wp2_with (first | (at_builtin; refine Lib.wpList_append_own_string _ rfl (.tmp 18) (.tmp 19) 57 9 rfl w.heap.size 5 i0 Try.underlying57 Try.underlying9 hi0 hz0 hs0 hby v4 bs.length _ rfl hown T rfl (by unfold maxLen; omega) (by omega) hB4 ?_) | fail)
  intro v5 w5 ho5 hg5 _
  have ho6 : w5.ownsRow w.heap.size 5 1 v5 (bs ++ T.data.toList).length (byteVals (bs ++ T.data.toList)) := by
    have e1 : (bs ++ T.data.toList).length = bs.length + T.size := by rw [List.length_append, Array.length_toList]; rfl
    have e2 : byteVals (bs ++ T.data.toList) = byteVals bs ++ Lib.strCells T := by unfold byteVals Lib.strCells; rw [List.map_append]
    rw [e1, e2]; exact ho5
  have cv := conv_own ho6
  have hb5 := hb4.grown hg5 hb4.size hv4
  clear ho5 ho6 hg5 hown c0
  go_wp2
  go_ret
  exact ⟨bs, hpb, rfl, hb5⟩

def CodPost (w : World) (T : ByteArray) (e : Ending) (w' : World) : Prop :=
  ∃ bs b, AllR T T.size b ∧ PB bs ([1] ++ numB 1 2 ++ (b ++ symB 256)) ∧ e = .returned (.string ⟨bs.toArray⟩) ∧ Below w.heap.size w w'

theorem Pn.setVs {B : Nat} {w : World} {gx : Nat} {b : List Nat} {vs vd vb : Value} (h : Pn B w gx b vs vd vb) (v : Value) : Pn B (w.setCell ⟨gx, 2, none⟩ v) gx b v vd vb := by
  obtain ⟨bs, hpb, q1, q2⟩ := h.own
  refine ⟨h.le, (h.row.set 2 _).congr (fun i hi => ?_), ⟨bs, hpb, q1, ?_⟩, h.ne⟩
  · rcases (by omega : i = 0 ∨ i = 1 ∨ i = 2 ∨ i = 3) with e | e | e | e <;> subst e <;> simp
  · rcases q2 with q2 | ⟨g, cap, cur, hv, hg, hh, r⟩
    · exact Or.inl q2
    · exact Or.inr ⟨g, cap, cur, hv, hg, by rw [Below.heap_setCell _ _ _ _ (by intro e; exact h.ne (by rw [hv]; show some g = some gx; rw [e]))]; exact hh, r⟩
theorem Pn.setVd {B : Nat} {w : World} {gx : Nat} {b : List Nat} {vs vd vb : Value} (h : Pn B w gx b vs vd vb) (v : Value) : Pn B (w.setCell ⟨gx, 3, none⟩ v) gx b vs v vb := by
  obtain ⟨bs, hpb, q1, q2⟩ := h.own
  refine ⟨h.le, (h.row.set 3 _).congr (fun i hi => ?_), ⟨bs, hpb, q1, ?_⟩, h.ne⟩
  · rcases (by omega : i = 0 ∨ i = 1 ∨ i = 2 ∨ i = 3) with e | e | e | e <;> subst e <;> simp
  · rcases q2 with q2 | ⟨g, cap, cur, hv, hg, hh, r⟩
    · exact Or.inl q2
    · exact Or.inr ⟨g, cap, cur, hv, hg, by rw [Below.heap_setCell _ _ _ _ (by intro e; exact h.ne (by rw [hv]; show some g = some gx; rw [e]))]; exact hh, r⟩
theorem Pn.later {B : Nat} {w w1 : World} {gx : Nat} {b : List Nat} {vs vd vb : Value} (h : Pn B w gx b vs vd vb) (hb : Below w.heap.size w w1) : Pn B w1 gx b vs vd vb := by
  obtain ⟨bs, hpb, q1, q2⟩ := h.own
  refine ⟨h.le, h.row.of_block (hb.block gx h.row.lt), ⟨bs, hpb, q1, ?_⟩, h.ne⟩
  rcases q2 with q2 | ⟨g, cap, cur, hv, hg, hh, r⟩
  · exact Or.inl q2
  · exact Or.inr ⟨g, cap, cur, hv, hg, (hb.block g (Array.getElem?_eq_some_iff.1 hh).1).trans hh, r⟩

theorem wsym0_any (B gx gs gd i : Nat) (b : List Nat) (vb : Value) (w : World) (h : Wr B w gx b gs gd vb) (hB : B ≤ w.heap.size) (hl : b.length + 15 ≤ 1000000) (hi : i < 288) :
    Calls Try.prog 42 #[.pointer (some ⟨gx, 0, none⟩), .string (codeT fixZ 288 i)] w fun e w' => e = .returned (.tuple #[]) ∧ RunsW B w w' gx (b ++ symB i) gs gd vb := by
  rw [codeT_fix hi]
  refine (pcode_any B gx _ _ b _ _ vb w h.pn hB (by have := fixZ_nat i; omega) (fixZ_nat i)).mono ?_
  rintro e w' ⟨rfl, hr⟩
  exact ⟨rfl, h.runs hr⟩

set_option maxRecDepth 4000 in
set_option maxHeartbeats 2000000 in
theorem wcoded_any (T : ByteArray) (w : World) (hT : T.size ≤ 5000) : Calls Try.prog 27 #[.string T] w (CodPost w T) := by
  have h0 := pn_start w
  have hB0 : w.heap.size + 1 = (w.alloc (.cells #[.slice none 0 0, .int .i64 0, .slice none 0 0, .slice none 0 0] 78)).heap.size := by simp
  have hA0 : Below w.heap.size w (w.alloc (.cells #[.slice none 0 0, .int .i64 0, .slice none 0 0, .slice none 0 0] 78)) := (Below.refl _ _).alloc (Nat.le_refl _) _
  go_enter Try.func27, Try.ntmps27
  go_wp2_with fail
  generalize w.alloc (.cells #[.slice none 0 0, .int .i64 0, .slice none 0 0, .slice none 0 0] 78) = w0 at h0 hB0 hA0 ⊢
  refine (fixedSymbols_any _).mono ?_
  rintro e w1 ⟨g1, cq1, rfl, o1, b1⟩
  go_wp2_with fail
  refine (texts_any g1 0 288 cq1 fixZ _ o1.ints (by omega)).mono ?_
  rintro e w2 (⟨hf, rfl, hb⟩ | ⟨hf, gs, rfl, hgs, hrow, b2⟩)
  · rw [fix_fit] at hf; exact absurd hf (by simp)
  have hs1 := b1.size
  have b12 := b1.trans (b2.mono hs1)
  have hs2 := b12.size
  have h2 := h0.later b12
  have c2 := h2.c2
  have f2 := h2.fz 2
  have hA2 := hA0.trans (b12.mono hA0.size)
  have h3 := h2.setVs (.slice (some ⟨gs, 0, none⟩) 288 288)
  have hrow3 := hrow.setOther (a := ⟨w.heap.size, 2, none⟩) (by show gs ≠ w.heap.size; omega) (.slice (some ⟨gs, 0, none⟩) 288 288)
  have hA3 : Below w.heap.size w (w2.setCell ⟨w.heap.size, 2, none⟩ (.slice (some ⟨gs, 0, none⟩) 288 288)) := hA2.setCell (Nat.le_refl _) _
  have hs3 : (w2.setCell ⟨w.heap.size, 2, none⟩ (.slice (some ⟨gs, 0, none⟩) 288 288)).heap.size = w2.heap.size := by simp [World.setCell]
  have hgs0 : w.heap.size + 1 ≤ gs := by omega
  clear o1 b1 b2 b12 hrow hA2 hA0 hf
  go_wp2_with fail
  clear c2 f2 h2 h0
  generalize w2.setCell ⟨w.heap.size, 2, none⟩ (.slice (some ⟨gs, 0, none⟩) 288 288) = w3 at h3 hrow3 hA3 hs3 ⊢
  refine (fixedDistances_any _).mono ?_
  rintro e w4 ⟨g4, cq4, rfl, o4, b4⟩
  go_wp2_with fail
  refine (texts_any g4 0 32 cq4 fivZ _ o4.ints (by omega)).mono ?_
  rintro e w5 (⟨hf, rfl, hb⟩ | ⟨hf, gd, rfl, hgd, hrow5, b5⟩)
  · rw [fiv_fit] at hf; exact absurd hf (by simp)
  have hs4 := b4.size
  have b45 := b4.trans (b5.mono hs4)
  have hs5 := b45.size
  have h5 := h3.later b45
  have c3 := h5.c3
  have f3 := h5.fz 3
  have hA5 := hA3.trans (b45.mono hA3.size)
  have hl3 := hrow3.lt
  have hrow6 := (hrow3.of_block (b45.block gs hl3)).setOther (a := ⟨w.heap.size, 3, none⟩) (by show gs ≠ w.heap.size; omega) (.slice (some ⟨gd, 0, none⟩) 32 32)
  have hrow7 := hrow5.setOther (a := ⟨w.heap.size, 3, none⟩) (by show gd ≠ w.heap.size; omega) (.slice (some ⟨gd, 0, none⟩) 32 32)
  have h6 : Wr w.heap.size (w5.setCell ⟨w.heap.size, 3, none⟩ (.slice (some ⟨gd, 0, none⟩) 32 32)) w.heap.size [] gs gd (.slice none 0 0) := ⟨h5.setVd _, hrow6, hrow7, ⟨by omega, by simp [Value.ownBlock]⟩, ⟨by omega, by simp [Value.ownBlock]⟩⟩
  have hA6 : Below w.heap.size w (w5.setCell ⟨w.heap.size, 3, none⟩ (.slice (some ⟨gd, 0, none⟩) 32 32)) := hA5.setCell (Nat.le_refl _) _
  clear o4 b4 b5 b45 hrow5 hrow6 hrow7 hA5 hA3 hrow3 hl3 hf
  go_wp2_with fail
  clear c3 f3 h5 h3
  generalize w5.setCell ⟨w.heap.size, 3, none⟩ (.slice (some ⟨gd, 0, none⟩) 32 32) = w6 at h6 hA6 ⊢
  have hB6 := hA6.size
  refine (pbegin_any w.heap.size w.heap.size 1 _ _ _ _ h6.pn hB6 (by omega)).mono ?_
  rintro e w7 ⟨rfl, r7⟩
  obtain ⟨v7, h7, k7, f7⟩ := h6.runs r7
  have hB7 := Nat.le_trans hB6 k7.size
  clear r7
  go_wp2_with fail
  refine (wall_any w.heap.size w.heap.size gs gd _ v7 T _ h7 hB7 (by simp [numB_length]) hT).mono ?_
  rintro e w8 ⟨rfl, b, hAll, r8⟩
  obtain ⟨v8, h8, k8, f8⟩ := RunsW.trans k7 f7 r8
  have hB8 := Nat.le_trans hB6 k8.size
  have c28 := h8.pn.c2
  have cs := h8.syms.cell (i := 256) (by omega)
  have hlb := hAll.len
  clear r8 h7 k7 f7
  go_wp2_with fail
  refine (wsym0_any w.heap.size w.heap.size gs gd 256 _ v8 _ h8 hB8 (by simp only [List.length_append, numB_length, List.length_singleton]; omega) (by omega)).mono ?_
  rintro e w9 ⟨rfl, r9⟩
  obtain ⟨v9, h9, k9, f9⟩ := RunsW.trans k8 f8 r9
  clear r9 h8 k8 f8 c28 cs
  have c0 := h9.pn.c0
  obtain ⟨bs, hpb, hown⟩ := h9.pn.own
  have cv := conv_own hown
  have hA9 : Below w.heap.size w w9 := by
    refine ⟨k9.os.trans hA6.os, k9.tape.trans hA6.tape, k9.output.trans hA6.output, Nat.le_trans hB6 k9.size, fun b hb => ?_⟩
    rw [k9.block b (by omega) (by omega) (by simp [Value.ownBlock]), hA6.block b hb]
  rw [List.append_assoc] at hpb
  clear h9 k9 f9 hown
  go_wp2
  go_ret
  exact ⟨bs, b, hAll, hpb, rfl, hA9⟩

end Go.Proofs.Ytnfghnolklhppaa
