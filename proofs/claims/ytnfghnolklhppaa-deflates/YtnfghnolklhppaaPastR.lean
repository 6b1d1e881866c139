/- The program's past: remember. -/
import Derived.Test.YtnfghnolklhppaaPastL
import Derived.Test.YtnfghnolklhppaaCount
import Derived.Maps.OwnSet
import Derived.Deep.WholeRow
import Derived.Deep.OwnRows
import Derived.WalkKit
namespace Go.Proofs.Ytnfghnolklhppaa
open Go.RowKit

def key3 (T : ByteArray) (i : Nat) : List UInt8 := (T.extract i (i + 3)).data.toList

theorem key3_at {T : ByteArray} {i j : Nat} (_h : i + 3 ≤ T.size) (hj : j < 3) : (key3 T i).getD j 0 = tb T (i + j) := by
  unfold key3 tb
  rw [ByteArray.data_extract, Array.toList_extract]
  simp only [List.getD_eq_getElem?_getD, List.extract_eq_take_drop, List.getElem?_take, List.getElem?_drop]
  rw [if_pos (by omega)]
theorem key3_same {T : ByteArray} {i j : Nat} (hi : i + 3 ≤ T.size) (hj : j + 3 ≤ T.size) (h : key3 T i = key3 T j) : Alk T i j 3 := fun k hk => by
  rw [← key3_at hi hk, ← key3_at hj hk, h]
theorem key3_len {T : ByteArray} {i : Nat} (h : i + 3 ≤ T.size) : (key3 T i).length = 3 := by
  unfold key3
  rw [Array.length_toList]
  show (T.extract i (i + 3)).size = 3
  rw [ByteArray.size_extract]
  omega
theorem key3_uni {T : ByteArray} {i j : Nat} (hu : Uni T) (hi : i + 3 ≤ T.size) (hj : j + 3 ≤ T.size) : key3 T i = key3 T j := by
  apply List.ext_getElem?
  intro k
  by_cases hk : k < 3
  · have e1 := key3_at hi hk
    have e2 := key3_at hj hk
    rw [hu _ (by omega)] at e1 e2
    rw [List.getD_eq_getElem?_getD, List.getElem?_eq_getElem (by rw [key3_len hi]; exact hk)] at e1
    rw [List.getD_eq_getElem?_getD, List.getElem?_eq_getElem (by rw [key3_len hj]; exact hk)] at e2
    rw [List.getElem?_eq_getElem (by rw [key3_len hi]; exact hk), List.getElem?_eq_getElem (by rw [key3_len hj]; exact hk)]
    simp only [Option.getD_some] at e1 e2
    rw [e1, e2]
  · rw [List.getElem?_eq_none (by rw [key3_len hi]; omega), List.getElem?_eq_none (by rw [key3_len hj]; omega)]

def i64d (v : Int) : DataW Unit := .lit (.int .i64 v)

/-- The map of the last places. -/
structure Lat (T : ByteArray) (D : DataW Unit) (k : Nat) : Prop where
  ok : ∀ q : List UInt8, Maps.has D (.string q) = true → ∃ v : Nat, D.atKey (.string q) (i64d 0) = i64d v ∧ v < k ∧ v + 3 ≤ T.size ∧ key3 T v = q
  uni : Uni T → 1 ≤ k → k + 2 ≤ T.size → Maps.has D (.string (key3 T (k - 1))) = true ∧ D.atKey (.string (key3 T (k - 1))) (i64d 0) = i64d ((k - 1 : Nat) : Int)

theorem keyS {q : List UInt8} : WideAt.IsKeyLit (.string q) := by simp [WideAt.IsKeyLit]
theorem Lat.start (T : ByteArray) : Lat T (.map []) 0 := ⟨fun q h => by simp [Maps.has] at h, fun _ h => by omega⟩
theorem Lat.pass {T : ByteArray} {D : DataW Unit} {k : Nat} (h : Lat T D k) (hk : T.size < k + 3) : Lat T D (k + 1) :=
  ⟨fun q hq => by obtain ⟨v, h1, h2, h3, h4⟩ := h.ok q hq; exact ⟨v, h1, by omega, h3, h4⟩, fun _ _ h3 => by omega⟩
theorem Lat.put {T : ByteArray} {D : DataW Unit} {k : Nat} (h : Lat T D k) (hD : Maps.IsMap D) (hk : k + 3 ≤ T.size) : Lat T (D.put (.string (key3 T k)) (i64d k)) (k + 1) := by
  refine ⟨fun q hq => ?_, fun _ _ _ => ?_⟩
  · by_cases e : q = key3 T k
    · subst e
      exact ⟨k, Maps.atKey_put_same hD keyS _ _, by omega, hk, rfl⟩
    · have hne : (Lit.string q) ≠ .string (key3 T k) := fun e2 => e (by injection e2)
      rw [Maps.has_put_other hne] at hq
      obtain ⟨v, h1, h2, h3, h4⟩ := h.ok q hq
      exact ⟨v, by rw [Maps.atKey_put_other hne]; exact h1, by omega, h3, h4⟩
  · rw [Nat.add_sub_cancel]
    exact ⟨Maps.has_put_same hD keyS _, Maps.atKey_put_same hD keyS _ _⟩

def setZ (z : Nat → Int) (k : Nat) (v : Int) (i : Nat) : Int := if i = k then v else z i

theorem Ear.more {T : ByteArray} {z : Nat → Int} {k : Nat} {v : Int} (h : Ear T z k) (hv : v = -1 ∨ ∃ p : Nat, v = (p : Int) ∧ p < k ∧ k + 3 ≤ T.size ∧ Alk T p k 3) (hu : Uni T → 1 ≤ k → k + 3 ≤ T.size → v = ((k - 1 : Nat) : Int)) : Ear T (setZ z k v) (k + 1) := by
  refine ⟨fun i hi => ?_, fun hun i h1 hi h3 => ?_⟩
  · unfold setZ
    by_cases e : i = k
    · subst e; rw [if_pos rfl]; exact hv
    · rw [if_neg e]; exact h.ok i (by omega)
  · unfold setZ
    by_cases e : i = k
    · subst e; rw [if_pos rfl]; exact hu hun h1 h3
    · rw [if_neg e]; exact h.uni hun i h1 (by omega) h3

def RemPost (w : World) (T : ByteArray) (e : Ending) (w' : World) : Prop :=
  ∃ g z, e = .returned (.agg #[.string T, .slice (some ⟨g, 0, none⟩) T.size T.size]) ∧ w.heap.size ≤ g ∧ IntsAt w' g 0 T.size z ∧ Ear T z T.size ∧ Below w.heap.size w w'

structure RemRel (w wr : World) (T : ByteArray) (k : Nat) (z : Nat → Int) (D : DataW Unit) : Prop where
  below : Below w.heap.size w wr
  res : wr.heap[w.heap.size]? = some (.cells #[.string .empty, .slice none 0 0] 89 (0, 0))
  row : wr.rowIs (w.heap.size + 1) 3 T.size (fun i => .int .i64 (if i < k then z i else 0))
  map : wr.ownsMap Try.prog 9 (plainElem Try.prog 3) (w.heap.size + 1 + 1) k D
  ear : Ear T z k
  lat : Lat T D k

theorem lawS : Maps.Keyed Try.prog 9 := Maps.string_keyed Try.underlying9
theorem zeroI (w : World) : (zeroValue 3).run Try.prog w = .ok (.int .i64 0) w := by kernel_rfl

theorem row_setZ {w : World} {g n k : Nat} {z : Nat → Int} {v : Int} (h : w.rowIs g 3 n (fun i => .int .i64 (if i < k then z i else 0))) : (w.setCell ⟨g, k, none⟩ (.int .i64 v)).rowIs g 3 n (fun i => .int .i64 (if i < k + 1 then setZ z k v i else 0)) := by
  refine (h.set k _).congr (fun i _ => ?_)
  unfold setZ
  by_cases e : i = k
  · subst e; rw [if_pos rfl, if_pos (by omega), if_pos rfl]
  · rw [if_neg e]
    by_cases hl : i < k
    · rw [if_pos hl, if_pos (by omega), if_neg e]
    · rw [if_neg hl, if_neg (by omega)]

theorem rem_start (w : World) (T : ByteArray) : RemRel w (((w.alloc (.cells #[.string ⟨#[]⟩, .slice none 0 0] 89)).alloc (.cells (madeCells #[.int .i64 0] T.size) 3)).alloc (.map #[] 0)) T 0 (fun _ => 0) (.map []) := by
  have e1 : (w.alloc (.cells #[.string ⟨#[]⟩, .slice none 0 0] 89)).heap.size = w.heap.size + 1 := by simp
  have e2 : ((w.alloc (.cells #[.string ⟨#[]⟩, .slice none 0 0] 89)).alloc (.cells (madeCells #[.int .i64 0] T.size) 3)).heap.size = w.heap.size + 1 + 1 := by simp
  refine ⟨(((Below.refl _ _).alloc (Nat.le_refl _) _).alloc (by simp) _).alloc (by simp; omega) _, ?_, ?_, ?_, ⟨fun i h => by omega, fun _ i _ h => by omega⟩, Lat.start T⟩
  · rw [Below.heap_alloc _ _ _ (by simp; omega), Below.heap_alloc _ _ _ (by simp)]
    exact heap_alloc_last w _
  · have := World.rowIs_made (w.alloc (.cells #[.string ⟨#[]⟩, .slice none 0 0] 89)) (.int .i64 0) T.size 3
    rw [e1] at this
    exact (this.alloc _).congr (fun i _ => by simp)
  · have := World.ownsMap_made (H := Unit) ((w.alloc (.cells #[.string ⟨#[]⟩, .slice none 0 0] 89)).alloc (.cells (madeCells #[.int .i64 0] T.size) 3)) Try.prog 9 (plainElem Try.prog 3)
    rw [e2] at this
    exact this

theorem row_setZ2 {w : World} {g n k : Nat} {z : Nat → Int} {u v : Int} (h : w.rowIs g 3 n (fun i => .int .i64 (if i < k + 1 then setZ z k u i else 0))) : (w.setCell ⟨g, k, none⟩ (.int .i64 v)).rowIs g 3 n (fun i => .int .i64 (if i < k + 1 then setZ z k v i else 0)) := by
  refine (h.set k _).congr (fun i _ => ?_)
  unfold setZ
  by_cases e : i = k
  · subst e; rw [if_pos rfl, if_pos (by omega), if_pos rfl]
  · rw [if_neg e, if_neg e, if_neg e]

theorem i64d_inj {a b : Int} (h : i64d a = i64d b) : a = b := by
  unfold i64d at h
  injection h with h
  injection h

theorem rem_grown {w w0 w1 : World} {T : ByteArray} {k : Nat} {z : Nat → Int} {D : DataW Unit} (hb : Below w.heap.size w w0) (hres : w0.heap[w.heap.size]? = some (.cells #[.string .empty, .slice none 0 0] 89 (0, 0)))
    (hrow : w0.rowIs (w.heap.size + 1) 3 T.size (fun i => .int .i64 (if i < k then z i else 0))) (hg : w0.grownBy w1 (some (w.heap.size + 1 + 1))) (hm : w1.ownsMap Try.prog 9 (plainElem Try.prog 3) (w.heap.size + 1 + 1) k D) (he : Ear T z k) (hl : Lat T D k) : RemRel w w1 T k z D := by
  refine ⟨hb.grown hg hb.size (fun j hj => by cases hj; omega), ?_, hrow.of_block (hg.block _ hrow.lt (by intro e; injection e with e; omega)), hm, he, hl⟩
  rw [hg.block _ (by exact (Array.getElem?_eq_some_iff.1 hres).1) (by intro e; injection e with e; omega)]
  exact hres

set_option maxRecDepth 100000 in
set_option maxHeartbeats 1000000 in
theorem remember_any (T : ByteArray) (w : World) (hT : T.size ≤ 5000) : Calls Try.prog 53 #[.string T] w (RemPost w T) := by
  have hmm := @run_makeMap Try.prog
  have hmk := run_make_row' (P := Try.prog) 30 3 (.int .i64 0) 8 Try.underlying30 Try.info3 rfl .i64 .i64 T.size (by omega) (by omega)
  go_enter Try.func53, Try.ntmps53
  go_wp2
  go_loopw [15] (fun x wr => ∃ (k : Nat) (z : Nat → Int) (D : DataW Unit), k ≤ T.size ∧ x = .int .i64 (k : Nat) ∧ RemRel w wr T k z D) (fun x _ => T.size - (intOf x).toNat)
  case atStart => exact ⟨0, _, _, by omega, rfl, rem_start w T⟩
  case round =>
    obtain ⟨k, z, D, hk, rfl, hrel⟩ := hrel
    clear hmm hmk
    by_cases hlt : k < T.size
    · have c0 := hrel.row.cell hlt
      have f0 := hrel.row.frozen k
      by_cases h3 : T.size < k + 3
      · have hI : (T.size : Int) - (k : Int) < 3 := by omega
        have R : RemRel w (wr.setCell ⟨w.heap.size + 1, k, none⟩ (.int .i64 (-1))) T (k + 1) (setZ z k (-1)) D :=
          ⟨hrel.below.setCell (by show w.heap.size ≤ w.heap.size + 1; omega) _, by rw [Below.heap_setCell _ _ _ _ (by show w.heap.size ≠ w.heap.size + 1; omega)]; exact hrel.res, row_setZ hrel.row, (hrel.map.setCell (by show w.heap.size + 1 + 1 ≠ w.heap.size + 1; omega) _).mono (by omega), hrel.ear.more (Or.inl rfl) (fun _ _ h => by omega), hrel.lat.pass h3⟩
        clear hrel
        go_wp2
        go_roundw
        case rel => exact ⟨k + 1, _, _, by omega, by go_num, R⟩
        case measure => simp [intOf]; omega
      · have hI : ¬ (T.size : Int) - (k : Int) < 3 := by omega
        have hI2 : (k : Int) + 3 ≤ (T.size : Int) := by omega
        have hsz : (T.extract k (k + 3)).size = 3 := by rw [ByteArray.size_extract]; omega
        have hkey : keyOf Try.prog 9 (.string (T.extract k (k + 3))) = some (.string (key3 T k)) := WideMaps.keyOf_string_mk Try.underlying9 (by rw [hsz]; unfold maxLen; omega)
        have hown := hrel.map.setCell (a := ⟨w.heap.size + 1, k, none⟩) (by show w.heap.size + 1 + 1 ≠ w.heap.size + 1; omega) (.int .i64 (-1))
        have hMap := hrel.map.isMap
        cases hhas : Maps.has D (.string (key3 T k)) with
        | false =>
          have hE := hrel.ear.more (k := k) (v := -1) (Or.inl rfl) (fun hu h1 _ => by have := (hrel.lat.uni hu h1 (by omega)).1; rw [key3_uni hu (i := k - 1) (j := k) (by omega) (by omega), hhas] at this; exact absurd this (by simp))
          have hL := hrel.lat.put hMap (by omega)
          have hbel : Below w.heap.size w (wr.setCell ⟨w.heap.size + 1, k, none⟩ (.int .i64 (-1))) := hrel.below.setCell (by show w.heap.size ≤ w.heap.size + 1; omega) _
          have hrow := row_setZ (v := -1) hrel.row
          have hres : (wr.setCell ⟨w.heap.size + 1, k, none⟩ (.int .i64 (-1))).heap[w.heap.size]? = _ := (Below.heap_setCell _ _ _ _ (by show w.heap.size ≠ w.heap.size + 1; omega)).trans hrel.res
          clear hrel
          go_wp2_with (first | (at_lookup; refine wpList_lookup_own_ok_int _ rfl _ _ 96 rfl 9 3 .i64 lawS Try.underlying96 Try.underlying3 (zeroI _) (w.heap.size + 1 + 1) k _ rfl hown _ _ rfl hkey ?_; intro c hat hwc; rw [hhas]) | (at_mapUpdate; refine wpList_mapUpdate_own _ rfl _ _ _ 96 rfl 9 3 lawS Try.underlying96 _ (w.heap.size + 1 + 1) k _ rfl hown (by unfold maxLen; omega) _ _ _ rfl rfl hkey _ [] (plainElem_int Try.underlying3 (WalkArith.wf_i64 (by omega))) ?_; intro w1 hown1 hgrow1) | fail)
          have R : RemRel w w1 T (k + 1) (setZ z k (-1)) (D.put (.string (key3 T k)) (i64d k)) := rem_grown hbel hres hrow hgrow1 hown1 hE hL
          go_roundw
          case rel => exact ⟨k + 1, _, _, by omega, by go_num, R⟩
          case measure => simp [intOf]; omega
        | true =>
          obtain ⟨v, hv1, hv2, hv3, hv4⟩ := hrel.lat.ok _ hhas
          have hE := hrel.ear.more (k := k) (v := (v : Int)) (Or.inr ⟨v, rfl, hv2, by omega, key3_same hv3 (by omega) hv4⟩) (fun hu h1 _ => by
            have e := (hrel.lat.uni hu h1 (by omega)).2
            rw [key3_uni hu (i := k - 1) (j := k) (by omega) (by omega)] at e
            exact i64d_inj (hv1.symm.trans e))
          have hL := hrel.lat.put hMap (by omega)
          have hbel : Below w.heap.size w ((wr.setCell ⟨w.heap.size + 1, k, none⟩ (.int .i64 (-1))).setCell ⟨w.heap.size + 1, k, none⟩ (.int .i64 (v : Int))) := (hrel.below.setCell (by show w.heap.size ≤ w.heap.size + 1; omega) _).setCell (by show w.heap.size ≤ w.heap.size + 1; omega) _
          have hrow1 := row_setZ (v := -1) hrel.row
          have c2 := hrow1.cell hlt
          have f2 := hrow1.frozen k
          have hrow := row_setZ2 (v := (v : Int)) hrow1
          have hres : ((wr.setCell ⟨w.heap.size + 1, k, none⟩ (.int .i64 (-1))).setCell ⟨w.heap.size + 1, k, none⟩ (.int .i64 (v : Int))).heap[w.heap.size]? = _ := (Below.heap_setCell _ _ _ _ (by show w.heap.size ≠ w.heap.size + 1; omega)).trans ((Below.heap_setCell _ _ _ _ (by show w.heap.size ≠ w.heap.size + 1; omega)).trans hrel.res)
          have hown2 := hown.setCell (a := ⟨w.heap.size + 1, k, none⟩) (by show w.heap.size + 1 + 1 ≠ w.heap.size + 1; omega) (.int .i64 (v : Int))
          clear hrel hrow1
          go_wp2_with (first | (at_lookup; refine wpList_lookup_own_ok_int _ rfl _ _ 96 rfl 9 3 .i64 lawS Try.underlying96 Try.underlying3 (zeroI _) (w.heap.size + 1 + 1) k _ rfl hown _ _ rfl hkey ?_; intro c hat hwc; rw [hhas]; obtain rfl : c = (v : Int) := i64d_inj (hat.symm.trans hv1)) | (at_mapUpdate; refine wpList_mapUpdate_own _ rfl _ _ _ 96 rfl 9 3 lawS Try.underlying96 _ (w.heap.size + 1 + 1) k _ rfl hown2 (by unfold maxLen; omega) _ _ _ rfl rfl hkey _ [] (plainElem_int Try.underlying3 (WalkArith.wf_i64 (by omega))) ?_; intro w1 hown1 hgrow1) | fail)
          have R : RemRel w w1 T (k + 1) (setZ z k (v : Int)) (D.put (.string (key3 T k)) (i64d k)) := rem_grown hbel hres hrow hgrow1 hown1 hE hL
          go_roundw
          case rel => exact ⟨k + 1, _, _, by omega, by go_num, R⟩
          case measure => simp [intOf]; omega
    · obtain rfl : k = T.size := by omega
      have hI : IntsAt wr (w.heap.size + 1) 0 T.size z := ⟨fun i hi => by have := hrel.row.cell hi; rw [if_pos hi] at this; rw [Nat.zero_add]; exact this, hrel.row.lt⟩
      have hR : wr.rowIs w.heap.size 89 2 (fun i => if i = 0 then .string .empty else .slice none 0 0) := ⟨_, hrel.res, rfl, fun i hi => by match i, hi with | 0, _ => rfl | 1, _ => rfl⟩
      have c0 := hR.cell (i := 0) (by omega)
      have f0 := hR.frozen 0
      have hR1 := hR.set 0 (.string T)
      have c1 := hR1.cell (i := 1) (by omega)
      have f1 := hR1.frozen 1
      have hR2 : ((wr.setCell ⟨w.heap.size, 0, none⟩ (.string T)).setCell ⟨w.heap.size, 1, none⟩ (.slice (some ⟨w.heap.size + 1, 0, none⟩) T.size T.size)).rowIs w.heap.size 89 2 (fun i => if i = 0 then .string T else .slice (some ⟨w.heap.size + 1, 0, none⟩) T.size T.size) := (hR1.set 1 _).congr (fun i hi => by
        rcases (by omega : i = 0 ∨ i = 1) with e | e <;> subst e <;> simp)
      have hne := pbox_row hR2
      have hbel : Below w.heap.size w ((wr.setCell ⟨w.heap.size, 0, none⟩ (.string T)).setCell ⟨w.heap.size, 1, none⟩ (.slice (some ⟨w.heap.size + 1, 0, none⟩) T.size T.size)) := (hrel.below.setCell (Nat.le_refl _) _).setCell (Nat.le_refl _) _
      have hE := hrel.ear
      have hI2 : IntsAt ((wr.setCell ⟨w.heap.size, 0, none⟩ (.string T)).setCell ⟨w.heap.size, 1, none⟩ (.slice (some ⟨w.heap.size + 1, 0, none⟩) T.size T.size)) (w.heap.size + 1) 0 T.size z := by
        refine ⟨fun i hi => ?_, by simp [World.setCell]; exact hI.lt⟩
        have e := hI.cell i hi
        simp only [World.cell?] at e ⊢
        rw [Below.heap_setCell _ _ _ _ (by show w.heap.size + 1 ≠ w.heap.size; omega), Below.heap_setCell _ _ _ _ (by show w.heap.size + 1 ≠ w.heap.size; omega)]
        exact e
      simp only [if_true, one_ne0, if_false] at c0 c1
      clear hrel hI hR hR1 hR2
      go_wp2
      exact bodyPost_ret (v := .agg #[.string T, .slice (some ⟨w.heap.size + 1, 0, none⟩) T.size T.size]) (results_cell_row Try.results53 _ _ w.heap.size 89 _ (0, 0) _ rfl hne Try.underlying89 rfl Try.size89) rfl ⟨w.heap.size + 1, z, rfl, by omega, hI2, hE, hbel⟩

end Go.Proofs.Ytnfghnolklhppaa
