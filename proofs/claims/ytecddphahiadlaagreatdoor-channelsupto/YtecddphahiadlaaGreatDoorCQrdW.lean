import Derived.Test.YtecddphahiadlaaGreatDoorCLinO
import Derived.Test.YtecddphahiadlaaGreatDoorCRun
import Derived.Test.YtecddphahiadlaaGreatDoorCRdrY
import Derived.Lib.BufferRead
import Derived.Deep.RegionWith
import Derived.Deep.CutBlock
import Derived.BigRegion
/- The document's reader of frames in memory; what is wrong. -/
namespace Go.Proofs.YtecddphahiadlaaGreatDoor
open Go.RowKit
theorem conv_run {B : Nat} {w : World} {gx : Nat} {s : ByteArray} {σ : St} {vt : Value} (h : Str B w gx s σ vt) (q : Nat) : (convert 80 9 vt).run Tryz.prog (w.drewN q) = .ok (.string (txt σ.text)) (w.drewN q) := by
 have ho := h.own
 obtain ⟨h1, h2⟩ := h.own
 rcases h2 with ⟨h2, h3⟩ | ⟨g, cap, cur, hv, _⟩
 ·
  have e : σ.text = [] := List.eq_nil_of_length_eq_zero h3
  rw [h2, e]
  exact Go.Lib.run_convert_nil_bytes (P := Tryz.prog) _ 80 9 5 0 Tryz.underlying80 Tryz.underlying5 Tryz.underlying9
 ·
  rw [hv]
  refine run_convert_bytes_back (P := Tryz.prog) (w.drewN q) 80 9 5 ⟨g, 0, none⟩ cap σ.text Tryz.underlying80 Tryz.underlying5 Tryz.underlying9 (fun j hj => ?_)
  have e := ho.cells (g := g) (by rw [hv]; rfl) j _ (byteVals_get σ.text j hj)
  have e2 : σ.text.getD j 0 = σ.text[j] := by rw [List.getD_eq_getElem?_getD, List.getElem?_eq_getElem hj]; rfl
  rw [e2] at e
  exact e
/-- The document's reader: A came, dead of d; R was read. -/
structure MemQ (V : Nat → Prop) (w : World) (gq gg N : Nat) (A : ByteArray) (d : Nat) (R : Nat → List UInt8) : Prop where
 row : w.rowIs gq 132 3 (fun i => if i = 0 then .string A else if i = 1 then .slice (some ⟨gg, 0, none⟩) N N else .int .i64 (d : Nat))
 gone : w.rowIs gg 3 N (fun c => .int .i64 ((R c).length : Nat))
 ne : gq ≠ gg
 few : N ≤ 8
 inV : V gq ∧ V gg
 live : ∀ b, V b → b < w.heap.size
section
variable {V V' : Nat → Prop} {w w' : World} {gq gg N : Nat} {A : ByteArray} {d : Nat} {R : Nat → List UInt8}
theorem MemQ.frame (h : MemQ V w gq gg N A d R) (hz : w.heap.size ≤ w'.heap.size) (hV : ∀ b, V b → w'.heap[b]? = w.heap[b]?) : MemQ V w' gq gg N A d R :=
 ⟨h.row.of_block (hV _ h.inV.1), h.gone.of_block (hV _ h.inV.2), h.ne, h.few, h.inV, fun b q => Nat.lt_of_lt_of_le (h.live b q) hz⟩
theorem MemQ.below (h : MemQ V w gq gg N A d R) (hb : Below w.heap.size w w') : MemQ V w' gq gg N A d R :=
 h.frame hb.size (fun b q => hb.block b (h.live b q))
theorem MemQ.c0 (h : MemQ V w gq gg N A d R) : w.cell? ⟨gq, 0, none⟩ = some (.string A) := by simpa using h.row.cell (i := 0) (by omega)
theorem MemQ.c1 (h : MemQ V w gq gg N A d R) : w.cell? ⟨gq, 1, none⟩ = some (.slice (some ⟨gg, 0, none⟩) N N) := by simpa using h.row.cell (i := 1) (by omega)
theorem MemQ.c2 (h : MemQ V w gq gg N A d R) : w.cell? ⟨gq, 2, none⟩ = some (.int .i64 (d : Nat)) := by simpa using h.row.cell (i := 2) (by omega)
theorem MemQ.setCame (h : MemQ V w gq gg N A d R) (A' : ByteArray) : MemQ V (w.setCell ⟨gq, 0, none⟩ (.string A')) gq gg N A' d R := by
 have hz : (w.setCell ⟨gq, 0, none⟩ (.string A')).heap.size = w.heap.size := by simp [World.setCell]
 refine ⟨(h.row.set 0 (.string A')).congr (fun i _ => ?_), h.gone.of_block (Below.heap_setCell _ _ _ _ (fun e => h.ne (show gg = gq from e).symm)), h.ne, h.few, h.inV, fun b q => by rw [hz]; exact h.live b q⟩
 by_cases e : i = 0
 · rw [if_pos e, if_pos e]
 · rw [if_neg e, if_neg e, if_neg e]
theorem MemQ.setDied (h : MemQ V w gq gg N A d R) (d' : Nat) : MemQ V (w.setCell ⟨gq, 2, none⟩ (.int .i64 (d' : Nat))) gq gg N A d' R := by
 have hz : (w.setCell ⟨gq, 2, none⟩ (.int .i64 (d' : Nat))).heap.size = w.heap.size := by simp [World.setCell]
 refine ⟨(h.row.set 2 (.int .i64 (d' : Nat))).congr (fun i hi => ?_), h.gone.of_block (Below.heap_setCell _ _ _ _ (fun e => h.ne (show gg = gq from e).symm)), h.ne, h.few, h.inV, fun b q => by rw [hz]; exact h.live b q⟩
 by_cases e : i = 0
 · rw [if_neg (by omega), if_pos e, if_pos e]
 ·
  by_cases e1 : i = 1
  · rw [if_neg (by omega), if_neg e, if_neg e, if_pos e1, if_pos e1]
  · rw [if_pos (by omega), if_neg e, if_neg e1]
theorem MemQ.setGone (h : MemQ V w gq gg N A d R) (c : Nat) (R' : Nat → List UInt8) (hR : ∀ i, i ≠ c → R' i = R i) : MemQ V (w.setCell ⟨gg, c, none⟩ (.int .i64 ((R' c).length : Nat))) gq gg N A d R' := by
 have hz : (w.setCell ⟨gg, c, none⟩ (.int .i64 ((R' c).length : Nat))).heap.size = w.heap.size := by simp [World.setCell]
 refine ⟨h.row.of_block (Below.heap_setCell _ _ _ _ (fun e => h.ne (show gq = gg from e))), (h.gone.set c _).congr (fun i _ => ?_), h.ne, h.few, h.inV, fun b q => by rw [hz]; exact h.live b q⟩
 by_cases e : i = c
 · rw [if_pos e, e]
 · rw [if_neg e, hR i e]
end
set_option maxRecDepth 8000 in
set_option maxHeartbeats 4000000 in
theorem qwrong_any (V : Nat → Prop) (gq gg N : Nat) (A : ByteArray) (d : Nat) (R : Nat → List UInt8) (w : World) (h : MemQ V w gq gg N A d R) (hA : A.size ≤ 140737488400000) :
 Calls Tryz.prog 91 #[.pointer (some ⟨gq, 0, none⟩)] w fun e w' => e = .returned (.int .i64 (ansF N A : Nat)) ∧ Below w.heap.size w w' := by
 have c0 := h.c0
 have hqz := h.live _ h.inV.1
 have hN8 := h.few
 have HR : Hid (_) := run_any A w hA
 have htx := runF_text A
 obtain ⟨an, han⟩ : ∃ an, an = ansF N A := ⟨_, rfl⟩
 rw [← han]
 have HAN : Hid (an = ansF N A) := han
 clear han
 go_enter Tryz.func91, Tryz.ntmps91
 go_wp2_with fail
 refine Calls.mono HR.out ?_
 rintro e w1 ⟨vt, rfl, hS, hb1⟩
 have h1 := h.below hb1
 have d1 := h1.c1
 have x2 := hS.c2
 have x3 := hS.c3
 have x1 := hS.c1
 have cv0 : (convert 80 9 vt).run Tryz.prog w1 = .ok (.string (txt (runF A).text)) w1 := conv_run hS 0
 have cv1 : (convert 80 9 vt).run Tryz.prog w1.drew = .ok (.string (txt (runF A).text)) w1.drew := conv_run hS 1
 have hxz : w.heap.size < w1.heap.size := hS.row.lt
 have HF : Hid (∀ w2, Below w1.heap.size w1 w2 → w2.cell? ⟨w.heap.size, 1, none⟩ = some (.int .i64 ((runF A).pos : Int)) ∧ w2.cell? ⟨w.heap.size, 3, none⟩ = some (.int .i64 ((runF A).why : Int)) ∧ w2.cell? ⟨gq, 0, none⟩ = some (.string A) ∧ Below w.heap.size w w2) := fun w2 hb => ⟨(hb.cell (p := ⟨w.heap.size, 1, none⟩) hxz).trans x1, (hb.cell (p := ⟨w.heap.size, 3, none⟩) hxz).trans x3, (h1.below hb).c0, hb1.trans (hb.mono hb1.size)⟩
 have HFR : Hid (_) := frames_any (txt (runF A).text) N w1.drew hN8 (by rw [txt_size]; exact htx)
 have HANS : Hid (an = if (takeS N z0 (runF A).text).1 = false then 6 else if (runF A).why = 2 then 0 else if (runF A).why ≠ 0 then (runF A).why else if 0 < (takeS N z0 (runF A).text).2.fr.length then 6 else if 0 < A.size - ((runF A).pos + 7) / 8 then 1 else 0) := by show _ = _; rw [HAN.out]; rfl
 have hpos := (runF_fit A).pos
 have hwhy : (runF A).why ≤ 3 := (runF_wy A).le
 rw [txt_list] at HFR
 clear HR c0 hS hb1 h x1 x3
 generalize (runF A).text = tx at htx cv0 cv1 HFR HANS
 generalize (runF A).pos = ps at hpos HF HANS
 generalize (runF A).why = wy at hwhy HF HANS
 obtain ⟨tk, htk⟩ : ∃ tk, tk = takeS N z0 tx := ⟨_, rfl⟩
 rw [← htk] at HANS
 have HTK : Hid (tk = takeS N z0 tx) := htk
 clear htk HAN
 go_upto_region 2 with fail
 go_cut [4, 5, 6] (fun _ b c wr => b = .bool (!tk.1) ∧ c = .bool (tk.1 && decide (0 < tk.2.fr.length)) ∧ Below w1.heap.size w1 wr)
 case first =>
  as_aux_lemma =>
   go_wp2_with fail
   go_region_with (go_at_call 68; refine Calls.mono HFR.out ?_; rintro e w2 ⟨gO, rfl, hrow, hb2, hnew⟩)
   all_goals
    go_wp2_with fail
    go_meet
    exact ⟨by rw [HTK.out], by rw [HTK.out], hb2.os, hb2.tape, hb2.output, hb2.size, hb2.block⟩
 case rest =>
  obtain ⟨rfl, rfl, hb⟩ := hcut
  obtain ⟨y1, y3, y0, hbl⟩ := HF.out _ hb
  clear HFR cv0 cv1 HF hb d1 x2 h1 HTK
  by_cases t1 : tk.1 = false
  ·
   have HE : Hid (an = 6) := by show _ = _; rw [HANS.out, if_pos t1]
   rw [t1]
   clear HANS t1
   go_wp2
   go_ret
   exact ⟨by rw [HE.out]; rfl, hbl⟩
  ·
   have t1' : tk.1 = true := by simpa using t1
   rw [t1']
   generalize hfr : decide (0 < tk.2.fr.length) = fr
   by_cases t2 : wy = 2
   ·
    have HE : Hid (an = 0) := by show _ = _; rw [HANS.out, if_neg t1, if_pos t2]
    subst t2
    clear HANS
    go_wp2
    go_ret
    exact ⟨by rw [HE.out]; rfl, hbl⟩
   ·
    have e2 : ((wy : Int) == 2) = false := by rw [beq_eq_false_iff_ne]; omega
    by_cases t3 : wy = 0
    ·
     subst t3
     cases fr with
     |
      true =>
      have HE : Hid (an = 6) := by show _ = _; rw [HANS.out, if_neg t1, if_neg t2, if_neg (by simp), if_pos (of_decide_eq_true hfr)]
      clear HANS hfr
      go_wp2
      go_ret
      exact ⟨by rw [HE.out]; rfl, hbl⟩
     |
      false =>
      have hfr' := of_decide_eq_false hfr
      by_cases t4 : (ps + 7) / 8 < A.size
      ·
       have HE : Hid (an = 1) := by show _ = _; rw [HANS.out, if_neg t1, if_neg t2, if_neg (by simp), if_neg hfr', if_pos (by omega)]
       have e4 : decide (((ps : Int) + 7) / 8 < (A.size : Int)) = true := by rw [decide_eq_true_iff]; omega
       have e5 : decide ((ps + 7) / 8 < A.size) = true := by rw [decide_eq_true_iff]; omega
       have hbd := hbl.drew
       clear HANS hfr
       go_wp2_with fail
       go_region
       all_goals
        go_wp2
        go_ret
        exact ⟨by rw [HE.out]; rfl, hbd⟩
      ·
       have HE : Hid (an = 0) := by show _ = _; rw [HANS.out, if_neg t1, if_neg t2, if_neg (by simp), if_neg hfr', if_neg (by omega)]
       have e4 : decide (((ps : Int) + 7) / 8 < (A.size : Int)) = false := by rw [decide_eq_false_iff_not]; omega
       have e5 : decide ((ps + 7) / 8 < A.size) = false := by rw [decide_eq_false_iff_not]; omega
       have hbd := hbl.drew
       clear HANS hfr
       go_wp2_with fail
       go_region
       all_goals
        go_wp2
        go_ret
        exact ⟨by rw [HE.out]; rfl, hbd⟩
    ·
     have HE : Hid (an = wy) := by show _ = _; rw [HANS.out, if_neg t1, if_neg t2, if_pos t3]
     have e3 : ((wy : Int) == 0) = false := by rw [beq_eq_false_iff_ne]; omega
     clear HANS hfr
     go_wp2
     go_ret
     exact ⟨by rw [HE.out]; rfl, hbl⟩
/- The document's reader of frames: NewReader, Feed, Done. -/
set_option maxRecDepth 8000 in
set_option maxHeartbeats 400000 in
theorem qfeed_dead (V : Nat → Prop) (gq gg N : Nat) (A S : ByteArray) (d : Nat) (R : Nat → List UInt8) (w : World) (h : MemQ V w gq gg N A d R) (hd : d ≠ 0) :
 Calls Tryz.prog 65 #[.pointer (some ⟨gq, 0, none⟩), .string S] w fun e w' => e = .returned (.int .i64 7) ∧ w' = w := by
 have c2 := h.c2
 have e2 : ((d : Int) == 0) = false := by rw [beq_eq_false_iff_ne]; omega
 clear h
 go_enter Tryz.func65, Tryz.ntmps65
 go_wp2
 go_ret
 exact ⟨rfl, rfl⟩
def QfP (V : Nat → Prop) (w : World) (gq gg N : Nat) (A : ByteArray) (R : Nat → List UInt8) (e : Ending) (w' : World) : Prop :=
 e = .returned (.int .i64 (ansF N A : Nat)) ∧ Kw w w' V ∧ MemQ V w' gq gg N A (ansF N A) R
set_option maxRecDepth 8000 in
set_option maxHeartbeats 400000 in
theorem qfeed_any (V : Nat → Prop) (gq gg N : Nat) (A S : ByteArray) (R : Nat → List UInt8) (w : World) (h : MemQ V w gq gg N A 0 R) (hA : A.size + S.size ≤ 140737488400000) :
 Calls Tryz.prog 65 #[.pointer (some ⟨gq, 0, none⟩), .string S] w (QfP V w gq gg N (A ++ S) R) := by
 have c0 := h.c0
 have c2 := h.c2
 have f0 := h.row.frozen 0
 have hgq := h.inV.1
 have h00 : ((0 : Nat) : Int) = 0 := rfl
 rw [h00] at c2
 have h1 := h.setCame (A ++ S)
 have k1 : Kw w (w.setCell ⟨gq, 0, none⟩ (.string (A ++ S))) V := kw_set w _ hgq
 have HW : Hid (_) := qwrong_any V gq gg N (A ++ S) 0 R _ h1 (by rw [ByteArray.size_append]; exact hA)
 have HF : Hid (∀ w2, Below (w.setCell ⟨gq, 0, none⟩ (.string (A ++ S))).heap.size (w.setCell ⟨gq, 0, none⟩ (.string (A ++ S))) w2 → w2.cell? ⟨gq, 2, none⟩ = some (.int .i64 0) ∧ w2.frozen? ⟨gq, 2, none⟩ = false ∧ QfP V w gq gg N (A ++ S) R (.returned (.int .i64 (ansF N (A ++ S) : Nat))) (w2.setCell ⟨gq, 2, none⟩ (.int .i64 (ansF N (A ++ S) : Nat)))) := fun w2 hb => by
  have h2 := h1.below hb
  exact ⟨h2.c2, h2.row.frozen 2, rfl, (k1.trans (Kw.below hb) (fun _ _ q => q)).trans (kw_set w2 _ hgq) (fun _ _ q => q), h2.setDied _⟩
 generalize hP : QfP V w gq gg N (A ++ S) R = P at HF ⊢
 generalize ansF N (A ++ S) = an at HW HF
 clear hP h h1 k1 h00
 go_enter Tryz.func65, Tryz.ntmps65
 go_wp2_with fail
 refine Calls.mono HW.out ?_
 rintro e w2 ⟨rfl, hb⟩
 obtain ⟨y0, y1, P0⟩ := HF.out w2 hb
 clear HW HF hb c0 c2 f0
 go_wp2
 exact P0
theorem runF_fin (A : ByteArray) : (runF A).fin = decide ((runF A).why = 0) := by
 obtain ⟨m, σ, _, _, h0, h1⟩ := runF_goes A
 by_cases q : (runF A).why = 0
 · rw [(h0 q).2, decide_eq_true q]
 · rw [h1 q, decide_eq_false q]
set_option maxRecDepth 8000 in
set_option maxHeartbeats 400000 in
theorem qdone_any (V : Nat → Prop) (gq gg N : Nat) (A : ByteArray) (d : Nat) (R : Nat → List UInt8) (w : World) (h : MemQ V w gq gg N A d R) (hA : A.size ≤ 140737488400000) :
 Calls Tryz.prog 50 #[.pointer (some ⟨gq, 0, none⟩)] w fun e w' => e = .returned (.bool (decide (d = 0 ∧ (runF A).why = 0))) ∧ Below w.heap.size w w' := by
 have c0 := h.c0
 have HR : Hid (_) := run_any A w hA
 have HB : Hid (decide (d = 0 ∧ (runF A).why = 0) = (decide (d = 0) && (runF A).fin)) := by
  show _ = _
  rw [runF_fin, Bool.decide_and]
 obtain ⟨an, han⟩ : ∃ an, an = decide (d = 0 ∧ (runF A).why = 0) := ⟨_, rfl⟩
 rw [← han] at HB ⊢
 clear han
 go_enter Tryz.func50, Tryz.ntmps50
 go_wp2_with fail
 refine Calls.mono HR.out ?_
 rintro e w1 ⟨vt, rfl, hS, hb1⟩
 have h1 := h.below hb1
 have d2 := h1.c2
 have x4 := hS.c4
 clear HR c0 h h1 hS
 generalize (runF A).fin = fi at x4 HB
 by_cases hd : d = 0
 ·
  subst hd
  have HE : Hid (an = fi) := by show _ = _; rw [HB.out]; simp
  have h00 : ((0 : Nat) : Int) = 0 := rfl
  rw [h00] at d2
  clear HB h00
  go_wp2
  go_ret
  exact ⟨by rw [HE.out]; rfl, hb1⟩
 ·
  have e2 : ((d : Int) == 0) = false := by rw [beq_eq_false_iff_ne]; omega
  have HE : Hid (an = false) := by show _ = _; rw [HB.out, decide_eq_false hd]; rfl
  clear HB
  go_wp2
  go_ret
  exact ⟨by rw [HE.out]; rfl, hb1⟩
theorem make_ints (N : Nat) (hN : N ≤ 8) (W : World) : (Instr.makeSlice 61 (.int .i64 (N : Int)) (.int .i64 (N : Int))).run Tryz.prog W = .ok (.slice (some ⟨W.heap.size, 0, none⟩) N N) (W.alloc (.cells (madeCells #[.int .i64 0] N) 3)) := by
 obtain ⟨i0, hi0, hz0, hs0, hby⟩ : ∃ i0, Tryz.prog.info? 3 = some i0 ∧ i0.zero = some (.int .i64 0) ∧ i0.size = 1 ∧ i0.bytes = 8 := info_parts (by kernel_rfl : (Tryz.prog.info? 3).map (fun i => (i.zero, i.size, i.bytes)) = some (some (.int .i64 0), 1, 8))
 have h := run_make (P := Tryz.prog) W 61 3 i0 (.int .i64 0) Tryz.underlying61 hi0 hz0 .i64 .i64 (N : Int) (N : Int) (by omega) (by omega) (by rw [hby]; omega) (by omega)
 have e : (((N : Int)).toNat * i0.size) = N := by rw [hs0]; omega
 rw [e] at h
 simpa [Value.cells] using h
/-- The blocks that were made. -/
def newV (w w' : World) (b : Nat) : Prop := w.heap.size ≤ b ∧ b < w'.heap.size
set_option maxRecDepth 8000 in
set_option maxHeartbeats 400000 in
theorem qnew_any (N : Nat) (w : World) (h1 : 1 ≤ N) (hN : N ≤ 8) :
 Calls Tryz.prog 40 #[.int .i64 (N : Int)] w fun e w' => ∃ gq gg, e = .returned (.tuple #[.pointer (some ⟨gq, 0, none⟩), .int .i64 0]) ∧ MemQ (newV w w') w' gq gg N .empty 0 (fun _ => []) ∧ Below w.heap.size w w' := by
 have hmk := make_ints N hN
 have hrow := fun W => World.rowIs_made W (.int .i64 0) N 3
 generalize madeCells #[.int .i64 0] N = Mz at hmk hrow
 have d1 : decide ((N : Int) < 1) = false := by rw [decide_eq_false_iff_not]; omega
 have d2 : decide (8 < (N : Int)) = false := by rw [decide_eq_false_iff_not]; omega
 have HF : Hid (∃ gq gg, Ending.returned (.tuple #[.pointer (some ⟨w.heap.size + 1, 0, none⟩), .int .i64 0]) = .returned (.tuple #[.pointer (some ⟨gq, 0, none⟩), .int .i64 0]) ∧ MemQ (newV w ((w.alloc (.cells Mz 3)).alloc (.cells #[.string .empty, .slice (some ⟨w.heap.size, 0, none⟩) N N, .int .i64 0] 132))) ((w.alloc (.cells Mz 3)).alloc (.cells #[.string .empty, .slice (some ⟨w.heap.size, 0, none⟩) N N, .int .i64 0] 132)) gq gg N .empty 0 (fun _ => []) ∧ Below w.heap.size w ((w.alloc (.cells Mz 3)).alloc (.cells #[.string .empty, .slice (some ⟨w.heap.size, 0, none⟩) N N, .int .i64 0] 132))) := by
  have e1 : (w.alloc (.cells Mz 3)).heap.size = w.heap.size + 1 := by simp
  have r := World.rowIs_alloc (w.alloc (.cells Mz 3)) #[.string .empty, .slice (some ⟨w.heap.size, 0, none⟩) N N, .int .i64 0] 132 (fun i => if i = 0 then .string .empty else if i = 1 then .slice (some ⟨w.heap.size, 0, none⟩) N N else .int .i64 ((0 : Nat) : Int)) (fun i hi => by match i, hi with | 0, _ => rfl | 1, _ => rfl | 2, _ => rfl)
  rw [e1] at r
  refine ⟨w.heap.size + 1, w.heap.size, rfl, ⟨r, ((hrow w).alloc _).congr (fun i _ => rfl), by omega, hN, ⟨⟨by omega, by simp⟩, ⟨Nat.le_refl _, by simp; omega⟩⟩, fun b q => q.2⟩, ((Below.refl _ _).alloc (Nat.le_refl _) _).alloc (by simp) _⟩
 go_enter Tryz.func40, Tryz.ntmps40
 go_wp2
 go_ret2
 exact HF.out
end Go.Proofs.YtecddphahiadlaaGreatDoor
