/- The document's reader of frames: Read. -/
import Derived.Test.YtecddphahiadlaaGreatDoorCQrdW
import Derived.Test.YtecddphahiadlaaGreatDoorCLinO
import Derived.Deep.RegionWith
import Derived.Deep.CutBlock
import Derived.BigRegion
namespace Go.Proofs.YtecddphahiadlaaGreatDoor
open Go.RowKit
set_option maxRecDepth 8000 in
set_option maxHeartbeats 400000 in
theorem qread_bad (V : Nat → Prop) (gq gg N : Nat) (A : ByteArray) (d : Nat) (R : Nat → List UInt8) (c most : Int) (w : World) (h : MemQ V w gq gg N A d R) (hc : c < 0 ∨ (N : Int) ≤ c) :
 Calls Tryz.prog 49 #[.pointer (some ⟨gq, 0, none⟩), .int .i64 c, .int .i64 most] w fun e w' => e = .returned (.tuple #[.string .empty, .int .i64 4]) ∧ w' = w := by
 have c1 := h.c1
 clear h
 rcases hc with hc | hc
 ·
  have d1 : decide (c < 0) = true := by rw [decide_eq_true_iff]; omega
  go_enter Tryz.func49, Tryz.ntmps49
  go_wp2
  go_ret2
  exact ⟨rfl, rfl⟩
 ·
  have d1 : decide (c < 0) = false := by rw [decide_eq_false_iff_not]; omega
  have d2 : decide ((N : Int) ≤ c) = true := by rw [decide_eq_true_iff]; omega
  go_enter Tryz.func49, Tryz.ntmps49
  go_wp2
  go_ret2
  exact ⟨rfl, rfl⟩
def QrP (V : Nat → Prop) (w : World) (gq gg N : Nat) (A : ByteArray) (d : Nat) (R : Nat → List UInt8) (c m : Nat) (e : Ending) (w' : World) : Prop :=
 e = .returned (.tuple #[.string (txt (nextF N A R c m)), .int .i64 0]) ∧ Kw w w' V ∧ MemQ V w' gq gg N A d (readR R c (nextF N A R c m))
set_option maxRecDepth 8000 in
set_option maxHeartbeats 20000000 in
theorem qread_any (V : Nat → Prop) (gq gg N : Nat) (A : ByteArray) (d : Nat) (R : Nat → List UInt8) (c : Nat) (most : Int) (w : World) (h : MemQ V w gq gg N A d R) (hc : c < N) (hA : A.size ≤ 140737488400000) (hm : most ≤ 9223372036854775807) (hm0 : -9223372036854775808 ≤ most) (hR : (R c).length ≤ ((gotF N A).ch c).length) :
 Calls Tryz.prog 49 #[.pointer (some ⟨gq, 0, none⟩), .int .i64 (c : Int), .int .i64 most] w (QrP V w gq gg N A d R c most.toNat) := by
 have c0 := h.c0
 have c1 := h.c1
 have hN8 := h.few
 have HR : Hid (_) := run_any A w hA
 have htx := runF_text A
 have hcI : (c : Int) < (N : Int) := by omega
 have d1 : decide ((c : Int) < 0) = false := by rw [decide_eq_false_iff_not]; omega
 have d2 : decide ((N : Int) ≤ (c : Int)) = false := by rw [decide_eq_false_iff_not]; omega
 have d3 : decide (N ≤ c) = false := by rw [decide_eq_false_iff_not]; omega
 generalize hP : QrP V w gq gg N A d R c most.toNat = P
 have HP : Hid (QrP V w gq gg N A d R c most.toNat = P) := hP
 clear hP
 go_enter Tryz.func49, Tryz.ntmps49
 go_wp2_with fail
 refine Calls.mono HR.out ?_
 rintro e w1 ⟨vt, rfl, hS, hb1⟩
 have h1 := h.below hb1
 have e1 := h1.c1
 have x2 := hS.c2
 have cv0 : (convert 80 9 vt).run Tryz.prog w1 = .ok (.string (txt (runF A).text)) w1 := conv_run hS 0
 have cv1 : (convert 80 9 vt).run Tryz.prog w1.drew = .ok (.string (txt (runF A).text)) w1.drew := conv_run hS 1
 have HFR : Hid (_) := frames_any (txt (runF A).text) N w1.drew hN8 (by rw [txt_size]; exact htx)
 rw [txt_list] at HFR
 have HF : Hid (∀ (W : World) (s : ByteArray), MemQ V W gq gg N A d R → Kw w W V → s = txt (nextF N A R c most.toNat) → P (.returned (.tuple #[.string s, .int .i64 0])) (W.setCell ⟨gg, c, none⟩ (.int .i64 (((R c).length : Int) + (s.size : Int)))).drew) := fun W s hW kW hs => by
  have e : (readR R c (nextF N A R c most.toNat) c).length = (R c).length + s.size := by
   unfold readR
   rw [if_pos rfl, List.length_append, hs, txt_size]
  have q := hW.setGone c (readR R c (nextF N A R c most.toNat)) (fun i hi => by unfold readR; rw [if_neg hi])
  rw [e] at q
  rw [← HP.out, hs]
  rw [hs] at q
  have kk : Kw w (W.setCell ⟨gg, c, none⟩ (.int .i64 (((R c).length : Int) + ((txt (nextF N A R c most.toNat)).size : Int)))) V := kW.trans (kw_set W _ h.inV.2) (fun _ _ q => q)
  exact ⟨rfl, ⟨kk.os, kk.tape, kk.output, kk.size, kk.block⟩, q.frame (Nat.le_refl _) (fun _ _ => rfl)⟩
 have HM : Hid (∀ wr, Below w1.heap.size w1 wr → MemQ V wr gq gg N A d R ∧ Kw w wr V) := fun wr hb => ⟨h1.below hb, (Kw.below hb1).trans (Kw.below hb) (fun _ _ q => q)⟩
 clear HR c0 c1 hS
 go_upto_region 4 with fail
 go_cut [9, 10, 11] (fun l _ _ wr => ∃ gO, l = .slice (some ⟨gO, 0, none⟩) N N ∧ wr.cell? ⟨gO, c, none⟩ = some (.string (txt ((gotF N A).ch c))) ∧ Below w1.heap.size w1 wr)
 case first =>
  as_aux_lemma =>
   go_wp2_with fail
   go_region_with (go_at_call 68; refine Calls.mono HFR.out ?_; rintro e w2 ⟨gO, rfl, hrow, hb2, hnew⟩)
   all_goals
    go_wp2_with fail
    go_meet
    exact ⟨gO, rfl, hrow.cell hc, hb2.os, hb2.tape, hb2.output, hb2.size, hb2.block⟩
 case rest =>
  obtain ⟨gO, rfl, y0, hb⟩ := hcut
  obtain ⟨h2, k2⟩ := HM.out _ hb
  have z1 := h2.c1
  have z2 := h2.gone.cell hc
  have z2f := h2.gone.frozen c
  have hLl : ((gotF N A).ch c).length ≤ 5000 := by
   have q := takeS_len N (runF A).text z0 c
   have e0 : (z0.ch c).length = 0 := rfl
   have e1 : z0.fr.length = 0 := rfl
   unfold gotF
   omega
  have hsz : (txt ((gotF N A).ch c)).size = ((gotF N A).ch c).length := txt_size _
  generalize hL : (gotF N A).ch c = L at y0 hR hLl hsz
  have hRI : ((R c).length : Int) ≤ (L.length : Int) := by omega
  have HN : Hid ((nextF N A R c most.toNat) = (L.drop (R c).length).take most.toNat) := by show _ = _; unfold nextF; rw [hL]
  clear HFR cv0 cv1 e1 x2 HM hb h1 hL HP
  have HD : Hid (∀ q, MemQ V (wc.drewN q) gq gg N A d R ∧ Kw w (wc.drewN q) V) := fun q => ⟨h2.frame (Nat.le_refl _) (fun _ _ => rfl), k2.drewN q⟩
  clear h2 k2
  generalize hsb : txt L = sb at y0 hsz
  have HSB : Hid (txt L = sb) := hsb
  clear hsb
  generalize hrl : (R c).length = rl at hR z2 hRI HF HN
  clear hrl
  go_wp2_with fail
  go_big_quiet (fail)
  obtain ⟨h3, k3⟩ := HD.out nq
  have z3 : (wc.drewN nq).cell? ⟨gg, c, none⟩ = some (.int .i64 (rl : Nat)) := z2
  have z3f : (wc.drewN nq).frozen? ⟨gg, c, none⟩ = false := z2f
  have z4 : (wc.drewN nq).cell? ⟨gq, 1, none⟩ = some (.slice (some ⟨gg, 0, none⟩) N N) := z1
  have hs0 : sb.extract rl L.length = txt (L.drop rl) := by
   rw [← HSB.out, txt_ext, List.take_of_length_le (by rw [List.length_drop]; exact Nat.le_refl _)]
  have hs0z : (sb.extract rl L.length).size = L.length - rl := by rw [hs0, txt_size, List.length_drop]
  have hs0b : (sb.extract rl L.length).size ≤ 5000 := by omega
  have HZ : Hid ((sb.extract rl L.length).size = L.length - rl) := hs0z
  have HN2 : Hid (∀ k, (sb.extract rl L.length).extract 0 k = txt ((L.drop rl).take k)) := fun k => by rw [hs0, txt_ext, Nat.sub_zero, List.drop_zero]
  have HN0 : Hid (sb.extract rl L.length = txt (L.drop rl)) := hs0
  have HF2 : Hid (∀ s : ByteArray, s = txt (nextF N A R c most.toNat) → _) := fun s hs => HF.out (wc.drewN nq) s h3 k3 hs
  generalize wc.drewN nq = W at z3 z3f z4 HF2 ⊢
  generalize sb.extract rl L.length = s0 at hs0z hs0b HZ HN2 HN0 ⊢
  clear hs0z HD HSB HF h3 k3 hs0 z1 z2 z2f y0 h
  by_cases hmn : most < 0
  ·
   have hmt : most.toNat = 0 := by omega
   by_cases hz : s0.size = 0
   ·
    have P0 := HF2.out s0 (by rw [HN.out, hmt, List.take_zero, HN0.out]; congr 1; exact List.eq_nil_of_length_eq_zero (by have := HZ.out; rw [List.length_drop]; omega))
    have e9 : (rl : Int) + (s0.size : Int) = (rl : Int) := by omega
    rw [e9] at P0
    clear e9
    clear HF2 HN HN0 HN2 HZ
    go_wp2_with fail
    go_region
    all_goals
     go_wp2
     exact P0
   ·
    have P0 := HF2.out (s0.extract 0 0) (by rw [HN.out, hmt, HN2.out])
    have hzz : 0 < s0.size := by omega
    have e8 : s0.extract 0 0 = .empty := bytes_ext (by rw [ByteArray.data_extract, Array.toList_extract, List.extract_eq_take_drop, Nat.sub_self, List.take_zero]; rfl)
    have e9 : (rl : Int) + (ByteArray.empty.size : Int) = (rl : Int) := by show (rl : Int) + 0 = _; omega
    rw [e8, e9] at P0
    clear e8 e9
    clear HF2 HN HN0 HN2 HZ
    go_wp2_with fail
    go_region
    all_goals
     go_wp2
     exact P0
  ·
   obtain ⟨mm, hmm⟩ := Int.eq_ofNat_of_zero_le (show 0 ≤ most by omega)
   subst hmm
   have hmt : ((mm : Nat) : Int).toNat = mm := by omega
   by_cases hz : s0.size ≤ mm
   ·
    have P0 := HF2.out s0 (by rw [HN.out, hmt, HN0.out, List.take_of_length_le (by have := HZ.out; rw [List.length_drop]; omega)])
    have d5 : decide (mm < s0.size) = false := by rw [decide_eq_false_iff_not]; omega
    clear HF2 HN HN0 HN2 HZ
    go_wp2_with fail
    go_region
    all_goals
     go_wp2
     exact P0
   ·
    have P0 := HF2.out (s0.extract 0 mm) (by rw [HN.out, hmt, HN2.out])
    have d5 : decide (mm < s0.size) = true := by rw [decide_eq_true_iff]; omega
    have e8 : (s0.extract 0 mm).size = mm := by rw [ByteArray.size_extract]; omega
    have e8' : min mm s0.size = mm := by omega
    rw [e8] at P0
    clear e8
    clear HF2 HN HN0 HN2 HZ
    go_wp2_with fail
    go_region
    all_goals
     go_wp2
     exact P0
end Go.Proofs.YtecddphahiadlaaGreatDoor
