import Derived.Test.YtecddphahiadlaaGreatDoorCWtrC
import Derived.Test.YtecddphahiadlaaGreatDoorCLinO
import Derived.Deep.LoopGhost
import Derived.BigRegion
import Derived.Lib.BufferRead
/- The document's writer of frames in memory; waiting. -/
namespace Go.Proofs.YtecddphahiadlaaGreatDoor
open Go.RowKit
/-- What the document's writer knows. -/
structure Vk where
 text : List UInt8
 taken : Nat
 time : Nat
 since : Nat
 closed : Bool
 last : Nat
 count : Nat
def vk0 : Vk := ⟨[], 0, 0, 0, false, 0, 0⟩
def vwCell (gu N : Nat) (k : Vk) (i : Nat) : Value :=
 if i = 0 then .slice (some ⟨gu, 0, none⟩) N N else if i = 1 then .string (txt k.text) else if i = 2 then .int .i64 (k.taken : Nat) else if i = 3 then .int .i64 (k.time : Nat)
 else if i = 4 then .int .i64 (k.since : Nat) else if i = 5 then .bool k.closed else if i = 6 then .int .i64 (k.last : Nat) else .int .i64 (k.count : Nat)
structure MemV (V : Nat → Prop) (w : World) (gv gu N : Nat) (Q : Nat → List UInt8) (k : Vk) : Prop where
 row : w.rowIs gv 110 8 (vwCell gu N k)
 waits : w.rowIs gu 9 N (fun c => .string (txt (Q c)))
 ne : gv ≠ gu
 few : N ≤ 8
 inV : V gv ∧ V gu
 live : ∀ b, V b → b < w.heap.size
section
variable {V : Nat → Prop} {w w' : World} {gv gu N : Nat} {Q : Nat → List UInt8} {k k' : Vk}
theorem MemV.frame (h : MemV V w gv gu N Q k) (hz : w.heap.size ≤ w'.heap.size) (hV : ∀ b, V b → w'.heap[b]? = w.heap[b]?) : MemV V w' gv gu N Q k :=
 ⟨h.row.of_block (hV _ h.inV.1), h.waits.of_block (hV _ h.inV.2), h.ne, h.few, h.inV, fun b q => Nat.lt_of_lt_of_le (h.live b q) hz⟩
theorem MemV.below (h : MemV V w gv gu N Q k) (hb : Below w.heap.size w w') : MemV V w' gv gu N Q k :=
 h.frame hb.size (fun b q => hb.block b (h.live b q))
theorem MemV.same (h : MemV V w gv gu N Q k) (hh : w'.heap = w.heap) : MemV V w' gv gu N Q k :=
 h.frame (by rw [hh]; exact Nat.le_refl _) (fun b _ => by rw [hh])
theorem MemV.cell (h : MemV V w gv gu N Q k) (i : Nat) (hi : i < 8) : w.cell? ⟨gv, i, none⟩ = some (vwCell gu N k i) ∧ w.frozen? ⟨gv, i, none⟩ = false := ⟨h.row.cell hi, h.row.frozen i⟩
theorem MemV.q (h : MemV V w gv gu N Q k) (c : Nat) (hc : c < N) : w.cell? ⟨gu, c, none⟩ = some (.string (txt (Q c))) ∧ w.frozen? ⟨gu, c, none⟩ = false := ⟨h.waits.cell hc, h.waits.frozen c⟩
theorem MemV.know (h : MemV V w gv gu N Q k) (i : Nat) (v : Value) (hc : ∀ j, j < 8 → vwCell gu N k' j = if j = i then v else vwCell gu N k j) : MemV V (w.setCell ⟨gv, i, none⟩ v) gv gu N Q k' := by
 have hz : (w.setCell ⟨gv, i, none⟩ v).heap.size = w.heap.size := by simp [World.setCell]
 exact ⟨(h.row.set i v).congr (fun j hj => (hc j hj).symm), h.waits.of_block (Below.heap_setCell _ _ _ _ (fun e => h.ne (show gu = gv from e).symm)), h.ne, h.few, h.inV, fun b q => by rw [hz]; exact h.live b q⟩
theorem MemV.setText (h : MemV V w gv gu N Q k) (x : List UInt8) : MemV V (w.setCell ⟨gv, 1, none⟩ (.string (txt x))) gv gu N Q { k with text := x } :=
 h.know 1 _ (fun j hj => by rcases (by omega : j = 0 ∨ j = 1 ∨ j = 2 ∨ j = 3 ∨ j = 4 ∨ j = 5 ∨ j = 6 ∨ j = 7) with rfl | rfl | rfl | rfl | rfl | rfl | rfl | rfl <;> rfl)
theorem MemV.setTaken (h : MemV V w gv gu N Q k) (x : Nat) : MemV V (w.setCell ⟨gv, 2, none⟩ (.int .i64 (x : Nat))) gv gu N Q { k with taken := x } :=
 h.know 2 _ (fun j hj => by rcases (by omega : j = 0 ∨ j = 1 ∨ j = 2 ∨ j = 3 ∨ j = 4 ∨ j = 5 ∨ j = 6 ∨ j = 7) with rfl | rfl | rfl | rfl | rfl | rfl | rfl | rfl <;> rfl)
theorem MemV.setTime (h : MemV V w gv gu N Q k) (x : Nat) : MemV V (w.setCell ⟨gv, 3, none⟩ (.int .i64 (x : Nat))) gv gu N Q { k with time := x } :=
 h.know 3 _ (fun j hj => by rcases (by omega : j = 0 ∨ j = 1 ∨ j = 2 ∨ j = 3 ∨ j = 4 ∨ j = 5 ∨ j = 6 ∨ j = 7) with rfl | rfl | rfl | rfl | rfl | rfl | rfl | rfl <;> rfl)
theorem MemV.setSince (h : MemV V w gv gu N Q k) (x : Nat) : MemV V (w.setCell ⟨gv, 4, none⟩ (.int .i64 (x : Nat))) gv gu N Q { k with since := x } :=
 h.know 4 _ (fun j hj => by rcases (by omega : j = 0 ∨ j = 1 ∨ j = 2 ∨ j = 3 ∨ j = 4 ∨ j = 5 ∨ j = 6 ∨ j = 7) with rfl | rfl | rfl | rfl | rfl | rfl | rfl | rfl <;> rfl)
theorem MemV.setShut (h : MemV V w gv gu N Q k) : MemV V (w.setCell ⟨gv, 5, none⟩ (.bool true)) gv gu N Q { k with closed := true } :=
 h.know 5 _ (fun j hj => by rcases (by omega : j = 0 ∨ j = 1 ∨ j = 2 ∨ j = 3 ∨ j = 4 ∨ j = 5 ∨ j = 6 ∨ j = 7) with rfl | rfl | rfl | rfl | rfl | rfl | rfl | rfl <;> rfl)
theorem MemV.setLast (h : MemV V w gv gu N Q k) (x : Nat) : MemV V (w.setCell ⟨gv, 6, none⟩ (.int .i64 (x : Nat))) gv gu N Q { k with last := x } :=
 h.know 6 _ (fun j hj => by rcases (by omega : j = 0 ∨ j = 1 ∨ j = 2 ∨ j = 3 ∨ j = 4 ∨ j = 5 ∨ j = 6 ∨ j = 7) with rfl | rfl | rfl | rfl | rfl | rfl | rfl | rfl <;> rfl)
theorem MemV.setCount (h : MemV V w gv gu N Q k) (x : Nat) : MemV V (w.setCell ⟨gv, 7, none⟩ (.int .i64 (x : Nat))) gv gu N Q { k with count := x } :=
 h.know 7 _ (fun j hj => by rcases (by omega : j = 0 ∨ j = 1 ∨ j = 2 ∨ j = 3 ∨ j = 4 ∨ j = 5 ∨ j = 6 ∨ j = 7) with rfl | rfl | rfl | rfl | rfl | rfl | rfl | rfl <;> rfl)
theorem MemV.setQ (h : MemV V w gv gu N Q k) (c : Nat) (x : List UInt8) : MemV V (w.setCell ⟨gu, c, none⟩ (.string (txt x))) gv gu N (fun d => if d = c then x else Q d) k := by
 have hz : (w.setCell ⟨gu, c, none⟩ (.string (txt x))).heap.size = w.heap.size := by simp [World.setCell]
 refine ⟨h.row.of_block (Below.heap_setCell _ _ _ _ (fun e => h.ne (show gv = gu from e))), (h.waits.set c _).congr (fun i _ => ?_), h.ne, h.few, h.inV, fun b q => by rw [hz]; exact h.live b q⟩
 by_cases e : i = c
 · rw [if_pos e, if_pos e]
 · rw [if_neg e, if_neg e]
end
theorem txt_empty (l : List UInt8) : (txt l).toList.isEmpty = decide (l.length = 0) := by
 rw [ByteArray.toList_eq, txt_list]
 cases l <;> rfl
set_option maxRecDepth 4000 in
set_option maxHeartbeats 400000 in
theorem vwaiting_any (V : Nat → Prop) (gv gu N : Nat) (Q : Nat → List UInt8) (k : Vk) (w : World) (h : MemV V w gv gu N Q k) :
 Calls Tryz.prog 41 #[.pointer (some ⟨gv, 0, none⟩)] w fun e w' => e = .returned (.bool (decide (0 < sumL N Q))) ∧ w' = w := by
 have c0 : w.cell? ⟨gv, 0, none⟩ = some (.slice (some ⟨gu, 0, none⟩) N N) := (h.cell 0 (by omega)).1
 have hN8 := h.few
 have HQ : Hid (∀ c, c < N → w.cell? ⟨gu, c, none⟩ = some (.string (txt (Q c)))) := fun c hc => (h.q c hc).1
 have HE : Hid (∀ k, k ≤ N → (∀ c, c < k → Q c = []) → (k = N → decide (0 < sumL N Q) = false) ∧ (k < N → Q k ≠ [] → decide (0 < sumL N Q) = true)) := fun k hk hz => ⟨fun e => by
  subst e
  rw [sumL_none k Q hz]
  rfl, fun hlt hne => by
  have := sumL_some N Q k hlt
  have h1 : 1 ≤ (Q k).length := List.length_pos_iff.2 hne
  rw [decide_eq_true_iff]
  omega⟩
 generalize decide (0 < sumL N Q) = ans at HE ⊢
 clear h
 go_enter Tryz.func41, Tryz.ntmps41
 go_wp2_with fail
 go_loopw [3] (fun i wr => ∃ m : Nat, m ≤ N ∧ i = .int .i64 (m : Nat) ∧ wr = w ∧ ∀ c, c < m → Q c = []) (fun i _ => N - (intOf i).toNat)
 case atStart => exact ⟨0, Nat.zero_le _, rfl, rfl, fun c hc => by omega⟩
 case round =>
  obtain ⟨m, hm, rfl, rfl, hz⟩ := hrel
  by_cases hlt : m < N
  ·
   have cq := HQ.out m hlt
   have hmI : (m : Int) < (N : Int) := by omega
   have he := txt_empty (Q m)
   by_cases hq : (Q m).length = 0
   ·
    rw [decide_eq_true hq] at he
    have hz' : ∀ c, c < m + 1 → Q c = [] := fun c hc => by
     by_cases e : c = m
     · subst e; exact List.eq_nil_of_length_eq_zero hq
     · exact hz c (by omega)
    clear HE HQ
    generalize txt (Q m) = tb at he cq
    go_wp2_with fail
    go_roundw
    case rel => exact ⟨m + 1, by omega, by go_num, by trivial, hz'⟩
    case measure => simp [intOf]; omega
   ·
    have HA : Hid (ans = true) := ((HE.out m hm hz).2 hlt (fun e => hq (by rw [e]; rfl)))
    rw [decide_eq_false hq] at he
    clear HE HQ
    generalize txt (Q m) = tb at he cq
    go_wp2
    go_ret
    exact ⟨by rw [HA.out]; rfl, rfl⟩
  ·
   obtain rfl : m = N := by omega
   have HA : Hid (ans = false) := ((HE.out m hm hz).1 rfl)
   clear HE HQ
   go_wp2
   go_ret
   exact ⟨by rw [HA.out]; rfl, rfl⟩
/- The document's writer of frames: goes. -/
/-- What goes has laid, the round being at channel i. -/
def VgI (V : Nat → Prop) (w wr : World) (gv gu N : Nat) (Q : Nat → List UInt8) (k : Vk) (s0 i : Nat) (more : Bool) : Prop :=
 ∃ R l, Kw w wr V ∧ MemV V wr gv gu N R { k with text := k.text ++ l } ∧ l ++ restG N i R = cutG N Q ∧ l.length + 3 * sumL N R ≤ 3 * sumL N Q ∧ (more = false → sumL N R = s0 ∧ ∀ c, c < i → c < N → R c = []) ∧ (more = true → sumL N R < s0)
/-- Between rounds. -/
def VgO (V : Nat → Prop) (w wr : World) (gv gu N : Nat) (Q : Nat → List UInt8) (k : Vk) (s0 : Nat) (more : Bool) : Prop :=
 ∃ R l, Kw w wr V ∧ MemV V wr gv gu N R { k with text := k.text ++ l } ∧ l ++ cutG N R = cutG N Q ∧ l.length + 3 * sumL N R ≤ 3 * sumL N Q ∧ sumL N R = s0 ∧ (more = false → ∀ c, c < N → R c = [])
section
variable {V : Nat → Prop} {w wr : World} {gv gu N : Nat} {Q : Nat → List UInt8} {k : Vk} {s0 i : Nat} {more : Bool}
theorem VgO.begin (h : VgO V w wr gv gu N Q k s0 more) : VgI V w wr gv gu N Q k s0 0 false := by
 obtain ⟨R, l, h1, h2, h3, h4, h5, h6⟩ := h
 exact ⟨R, l, h1, h2, by rw [restG_zero]; exact h3, h4, fun _ => ⟨h5, fun c hc => by omega⟩, fun q => by simp at q⟩
theorem VgI.end (h : VgI V w wr gv gu N Q k s0 N more) : ∃ s1, VgO V w wr gv gu N Q k s1 more ∧ (more = true → s1 < s0) := by
 obtain ⟨R, l, h1, h2, h3, h4, h5, h6⟩ := h
 exact ⟨sumL N R, ⟨R, l, h1, h2, by rw [← restG_end]; exact h3, h4, rfl, fun q c hc => (h5 q).2 c hc hc⟩, h6⟩
/-- A channel, as the round meets it. -/
theorem VgI.cases (h : VgI V w wr gv gu N Q k s0 i more) (hi : i < N) (_hN : N ≤ 8) (hq : sumL N Q ≤ 1600) :
 wr.cell? ⟨gv, 0, none⟩ = some (.slice (some ⟨gu, 0, none⟩) N N) ∧ wr.frozen? ⟨gv, 1, none⟩ = false ∧ wr.frozen? ⟨gu, i, none⟩ = false ∧ gv ≠ gu ∧ gv < wr.heap.size ∧ gu < wr.heap.size ∧
 ∃ tx tb : ByteArray, wr.cell? ⟨gv, 1, none⟩ = some (.string tx) ∧ wr.cell? ⟨gu, i, none⟩ = some (.string tb) ∧ tx.size ≤ k.text.length + 4800 ∧ tb.size ≤ 1600 ∧
  (tb.size = 0 → VgI V w wr gv gu N Q k s0 (i + 1) more) ∧
  ∀ (F : World) (ob : Obj) (n : Nat), n = min tb.size 20 → 1 ≤ tb.size → F.heap = (((wr.setCell ⟨gv, 1, none⟩ (.string (tx ++ txt [UInt8.ofNat i, UInt8.ofNat n] ++ tb.extract 0 n))).setCell ⟨gu, i, none⟩ (.string (tb.extract n tb.size))).alloc ob).heap → F.os = wr.os → F.tape = wr.tape → F.output = wr.output → VgI V w F gv gu N Q k s0 (i + 1) true := by
 obtain ⟨R, l, h1, h2, h3, h4, h5, h6⟩ := h
 have hsi := sumL_some N R i hi
 refine ⟨(h2.cell 0 (by omega)).1, (h2.cell 1 (by omega)).2, (h2.q i hi).2, h2.ne, h2.live _ h2.inV.1, h2.live _ h2.inV.2, txt (k.text ++ l), txt (R i), (h2.cell 1 (by omega)).1, (h2.q i hi).1, ?_, ?_, fun hz => ?_, fun F ob n hn hz hF f1 f2 f3 => ?_⟩
 · rw [txt_size, List.length_append]; omega
 · rw [txt_size]; omega
 ·
  rw [txt_size] at hz
  have e : R i = [] := List.eq_nil_of_length_eq_zero hz
  exact ⟨R, l, h1, h2, by rw [← restG_skip hi e]; exact h3, h4, fun q => ⟨(h5 q).1, fun c hc hcN => by
   by_cases e2 : c = i
   · rw [e2]; exact e
   · exact (h5 q).2 c (by omega) hcN⟩, h6⟩
 ·
  rw [txt_size] at hn hz
  have e1 : txt (k.text ++ l) ++ txt [UInt8.ofNat i, UInt8.ofNat n] ++ (txt (R i)).extract 0 n = txt (k.text ++ (l ++ ([UInt8.ofNat i, UInt8.ofNat n] ++ (R i).take n))) := by
   rw [txt_ext, txt_app, txt_app, Nat.sub_zero, List.drop_zero]
   simp only [List.append_assoc]
  have e2 : (txt (R i)).extract n (txt (R i)).size = txt ((R i).drop n) := by
   rw [txt_ext, txt_size, List.take_of_length_le (by rw [List.length_drop]; exact Nat.le_refl _)]
  rw [e1, e2] at hF
  have m0 := (h2.setText (k.text ++ (l ++ ([UInt8.ofNat i, UInt8.ofNat n] ++ (R i).take n)))).setQ i ((R i).drop n)
  have k0 : Kw wr ((wr.setCell ⟨gv, 1, none⟩ (.string (txt (k.text ++ (l ++ ([UInt8.ofNat i, UInt8.ofNat n] ++ (R i).take n)))))).setCell ⟨gu, i, none⟩ (.string (txt ((R i).drop n)))) V := (kw_set (W := V) wr _ h2.inV.1).trans (kw_set (W := V) _ _ h2.inV.2) (fun _ _ q => q)
  have hb : Below ((wr.setCell ⟨gv, 1, none⟩ (.string (txt (k.text ++ (l ++ ([UInt8.ofNat i, UInt8.ofNat n] ++ (R i).take n)))))).setCell ⟨gu, i, none⟩ (.string (txt ((R i).drop n)))).heap.size ((wr.setCell ⟨gv, 1, none⟩ (.string (txt (k.text ++ (l ++ ([UInt8.ofNat i, UInt8.ofNat n] ++ (R i).take n)))))).setCell ⟨gu, i, none⟩ (.string (txt ((R i).drop n)))) (((wr.setCell ⟨gv, 1, none⟩ (.string (txt (k.text ++ (l ++ ([UInt8.ofNat i, UInt8.ofNat n] ++ (R i).take n)))))).setCell ⟨gu, i, none⟩ (.string (txt ((R i).drop n)))).alloc ob) := (Below.refl _ _).alloc (Nat.le_refl _) ob
  have m2 := (m0.below hb).same hF
  have k1 := k0.trans (Kw.below (W := V) hb) (fun _ _ q => q)
  have hd := sumL_drop N R i n hi (by omega)
  have hlt : ((R i).take n).length = n := by rw [List.length_take]; omega
  refine ⟨_, _, h1.trans (W1 := V) ⟨f1, f2, f3, by rw [hF]; exact k1.size, fun b hb2 hv => by rw [hF]; exact k1.block b hb2 hv⟩ (fun _ _ q => q), m2, ?_, ?_, fun q => by simp at q, fun _ => ?_⟩
  ·
   rw [← h3, restG_step hi hn hz]
   simp only [List.append_assoc]
  ·
   rw [List.length_append, List.length_append, hlt]
   simp only [List.length_cons, List.length_nil]
   omega
  ·
   cases more with
   | false => have := (h5 rfl).1; omega
   | true => have := h6 rfl; omega
end
/-- What goes leaves. -/
def VgP (V : Nat → Prop) (w : World) (gv gu N : Nat) (Q : Nat → List UInt8) (k : Vk) (e : Ending) (w' : World) : Prop :=
 e = .returned (.tuple #[]) ∧ Kw w w' V ∧ MemV V w' gv gu N (fun _ => []) { k with text := k.text ++ cutG N Q, last := (cutG N Q).length, count := k.count + 1 }
theorem conv_two (a b : Nat) (ha : a < 256) (hb : b < 256) (w : World) (q : Nat) : (convert 80 9 (.slice (some ⟨w.heap.size, 0, none⟩) 2 2)).run Tryz.prog ((w.alloc (.cells #[.int .u8 (a : Int), .int .u8 (b : Int)] 5)).drewN q) = .ok (.string (txt [UInt8.ofNat a, UInt8.ofNat b])) ((w.alloc (.cells #[.int .u8 (a : Int), .int .u8 (b : Int)] 5)).drewN q) := by
 have ea : (UInt8.ofNat a).toNat = a := by rw [UInt8.toNat_ofNat']; omega
 have eb : (UInt8.ofNat b).toNat = b := by rw [UInt8.toNat_ofNat']; omega
 refine run_convert_bytes_back (P := Tryz.prog) _ 80 9 5 ⟨w.heap.size, 0, none⟩ 2 [UInt8.ofNat a, UInt8.ofNat b] Tryz.underlying80 Tryz.underlying5 Tryz.underlying9 (fun j hj => ?_)
 have hb2 := heap_alloc_last w (.cells #[.int .u8 (a : Int), .int .u8 (b : Int)] 5)
 have e : ((w.alloc (.cells #[.int .u8 (a : Int), .int .u8 (b : Int)] 5)).drewN q).cell? ((⟨w.heap.size, 0, none⟩ : Addr).add j) = (w.alloc (.cells #[.int .u8 (a : Int), .int .u8 (b : Int)] 5)).cell? ((⟨w.heap.size, 0, none⟩ : Addr).add j) := rfl
 rw [e, addr_add0, cell_of_row _ _ _ _ _ _ hb2]
 simp only [List.length_cons, List.length_nil] at hj
 rcases (by omega : j = 0 ∨ j = 1) with rfl | rfl
 · simp [ea]
 · simp [eb]
set_option maxRecDepth 8000 in
set_option maxHeartbeats 1000000 in
theorem vgoes_any (V : Nat → Prop) (gv gu N : Nat) (Q : Nat → List UInt8) (k : Vk) (w : World) (h : MemV V w gv gu N Q k) (hq : sumL N Q ≤ 1600) (ht : k.text.length ≤ 1000000) (hcn : k.count ≤ 1000000000) :
 Calls Tryz.prog 63 #[.pointer (some ⟨gv, 0, none⟩)] w (VgP V w gv gu N Q k) := by
 have hN8 := h.few
 have c1 : w.cell? ⟨gv, 1, none⟩ = some (.string (txt k.text)) := (h.cell 1 (by omega)).1
 have H0 : VgO V w w gv gu N Q k (sumL N Q) true := ⟨Q, [], Kw.refl _ _, by rw [List.append_nil]; exact h, rfl, by simp, rfl, fun q => by simp at q⟩
 have htx := txt_size k.text
 have HCS : Hid (∀ wr s0 i more, VgI V w wr gv gu N Q k s0 i more → i < N → _) := fun wr s0 i more hI hi => hI.cases hi hN8 hq
 have HEN : Hid (∀ wr s0, VgO V w wr gv gu N Q k s0 false → ∃ tx : ByteArray, wr.cell? ⟨gv, 1, none⟩ = some (.string tx) ∧ tx.size ≤ 2000000 ∧ wr.cell? ⟨gv, 6, none⟩ = some (.int .i64 (k.last : Nat)) ∧ wr.frozen? ⟨gv, 6, none⟩ = false ∧ wr.cell? ⟨gv, 7, none⟩ = some (.int .i64 (k.count : Nat)) ∧ wr.frozen? ⟨gv, 7, none⟩ = false ∧ k.text.length ≤ tx.size ∧ VgP V w gv gu N Q k (.returned (.tuple #[])) ((wr.setCell ⟨gv, 6, none⟩ (.int .i64 ((tx.size : Int) - (k.text.length : Int)))).setCell ⟨gv, 7, none⟩ (.int .i64 ((k.count : Int) + 1)))) := fun wr s0 hO => by
  obtain ⟨R, l, h1, h2, h3, h4, h5, h6⟩ := hO
  have hz := h6 rfl
  rw [cutG_none hz, List.append_nil] at h3
  have hl2 : l.length ≤ 4800 := by omega
  refine ⟨txt (k.text ++ l), (h2.cell 1 (by omega)).1, by rw [txt_size, List.length_append]; omega, (h2.cell 6 (by omega)).1, (h2.cell 6 (by omega)).2, (h2.cell 7 (by omega)).1, (h2.cell 7 (by omega)).2, by rw [txt_size, List.length_append]; omega, rfl, (h1.trans (kw_set (W := V) _ _ h2.inV.1) (fun _ _ q => q)).trans (kw_set (W := V) _ _ h2.inV.1) (fun _ _ q => q), ?_⟩
  have e1 : (((txt (k.text ++ l)).size : Int) - (k.text.length : Int)) = ((cutG N Q).length : Nat) := by rw [txt_size, List.length_append, ← h3]; omega
  have e2 : ((k.count : Int) + 1) = ((k.count + 1 : Nat) : Int) := by omega
  rw [e1, e2]
  have m1 := (h2.setLast (cutG N Q).length).setCount (k.count + 1)
  rw [h3] at m1
  have m2 : MemV V _ gv gu N (fun _ => []) _ := ⟨m1.row, m1.waits.congr (fun c hc => by rw [hz c hc]), m1.ne, m1.few, m1.inV, m1.live⟩
  exact m2
 generalize hP : VgP V w gv gu N Q k = P at HEN ⊢
 clear hP h
 go_enter Tryz.func63, Tryz.ntmps63
 go_wp2_with fail
 go_loopg [3] (sumL N Q + 2) (fun fu mo wr => ∃ s0 more, mo = .bool more ∧ VgO V w wr gv gu N Q k s0 more ∧ (more = true → s0 + 2 ≤ fu))
 case atStart => exact ⟨_, true, rfl, H0, fun _ => Nat.le_refl _⟩
 case round =>
  clear H0 c1
  obtain ⟨s0, more, rfl, hO, hfu⟩ := hrel
  cases more with
  |
   false =>
   obtain ⟨tx, y1, y2, y3, y4, y5, y6, y7, P0⟩ := HEN.out _ _ hO
   clear HEN HCS hO hfu
   go_wp2
   first | exact P0 | (go_end0; exact P0)
  |
   true =>
   have hfu' := hfu rfl
   have HI := hO.begin
   clear hO hfu HEN
   go_wp2_with fail
   go_loopw [3, 4] (fun mo i wr => ∃ m more, m ≤ N ∧ i = .int .i64 (m : Nat) ∧ mo = .bool more ∧ VgI V w wr gv gu N Q k s0 m more) (fun _ i _ => N - (intOf i).toNat)
   case atStart => exact ⟨0, false, Nat.zero_le _, rfl, rfl, HI⟩
   case round =>
    clear HI
    obtain ⟨m, more, hm, rfl, rfl, hI⟩ := hrel
    by_cases hlt : m < N
    ·
     obtain ⟨z0, z1f, zqf, hne, hgv, hgu, tx, tb, z1, zq, htxs, htbs, Hskip, Hmore⟩ := HCS.out _ _ _ _ hI hlt
     have hmI : (m : Int) < (N : Int) := by omega
     have hne2 : gu ≠ gv := fun e => hne e.symm
     clear HCS hI
     by_cases htz : tb.size = 0
     ·
      have HS := Hskip htz
      have d0 : decide ((0 : Int) < (tb.size : Int)) = false := by rw [decide_eq_false_iff_not]; omega
      clear Hskip Hmore
      go_wp2_with fail
      go_roundw
      case rel => exact ⟨m + 1, more, by omega, by go_num, rfl, HS⟩
      case measure => simp [intOf]; omega
     ·
      have HM : Hid (_) := Hmore
      clear Hskip Hmore
      have d0 : 0 < tb.size := by omega
      by_cases h20 : 20 < tb.size
      ·
       have cv0 : ∀ w' : World, (convert 80 9 (.slice (some ⟨w'.heap.size, 0, none⟩) 2 2)).run Tryz.prog (w'.alloc (.cells #[.int .u8 (m : Int), .int .u8 20] 5)) = .ok (.string (txt [UInt8.ofNat m, UInt8.ofNat 20])) (w'.alloc (.cells #[.int .u8 (m : Int), .int .u8 20] 5)) := fun w' => conv_two m 20 (by omega) (by omega) w' 0
       have cv1 : ∀ w' : World, (convert 80 9 (.slice (some ⟨w'.heap.size, 0, none⟩) 2 2)).run Tryz.prog (w'.alloc (.cells #[.int .u8 (m : Int), .int .u8 20] 5)).drew = .ok (.string (txt [UInt8.ofNat m, UInt8.ofNat 20])) (w'.alloc (.cells #[.int .u8 (m : Int), .int .u8 20] 5)).drew := fun w' => conv_two m 20 (by omega) (by omega) w' 1
       have hts : (txt [UInt8.ofNat m, UInt8.ofNat 20]).size = 2 := rfl
       generalize hhd : txt [UInt8.ofNat m, UInt8.ofNat 20] = hd at cv0 cv1 hts
       have HHD : Hid (txt [UInt8.ofNat m, UInt8.ofNat 20] = hd) := hhd
       clear hhd
       have HF2 : Hid (∀ F : World, F.heap = (((wr.setCell ⟨gv, 1, none⟩ (.string (tx ++ hd ++ tb.extract 0 20))).setCell ⟨gu, m, none⟩ (.string (tb.extract 20 tb.size))).alloc (.cells #[.int .u8 (m : Int), .int .u8 20] 5)).heap → F.os = wr.os → F.tape = wr.tape → F.output = wr.output → VgI V w F gv gu N Q k s0 (m + 1) true) := fun F hF f1 f2 f3 => HM.out F _ 20 (by omega) (by omega) (by rw [hF, ← HHD.out]) f1 f2 f3
       clear HM HHD
       go_wp2_with fail
       go_region
       go_wp2_with fail
       go_region
       go_wp2_with fail
       go_roundw
       case rel => exact ⟨m + 1, true, by omega, by go_num, rfl, HF2.out _ rfl rfl rfl rfl⟩
       case measure => simp [intOf]; omega
      ·
       obtain ⟨n, hn⟩ : ∃ n, n = tb.size := ⟨_, rfl⟩
       rw [← hn] at htbs htz d0 h20
       have cv0 : ∀ w' : World, (convert 80 9 (.slice (some ⟨w'.heap.size, 0, none⟩) 2 2)).run Tryz.prog (w'.alloc (.cells #[.int .u8 (m : Int), .int .u8 (n : Int)] 5)) = .ok (.string (txt [UInt8.ofNat m, UInt8.ofNat n])) (w'.alloc (.cells #[.int .u8 (m : Int), .int .u8 (n : Int)] 5)) := fun w' => conv_two m n (by omega) (by omega) w' 0
       have cv1 : ∀ w' : World, (convert 80 9 (.slice (some ⟨w'.heap.size, 0, none⟩) 2 2)).run Tryz.prog (w'.alloc (.cells #[.int .u8 (m : Int), .int .u8 (n : Int)] 5)).drew = .ok (.string (txt [UInt8.ofNat m, UInt8.ofNat n])) (w'.alloc (.cells #[.int .u8 (m : Int), .int .u8 (n : Int)] 5)).drew := fun w' => conv_two m n (by omega) (by omega) w' 1
       have hts : (txt [UInt8.ofNat m, UInt8.ofNat n]).size = 2 := rfl
       generalize hhd : txt [UInt8.ofNat m, UInt8.ofNat n] = hd at cv0 cv1 hts
       have HHD : Hid (txt [UInt8.ofNat m, UInt8.ofNat n] = hd) := hhd
       clear hhd
       have hsz : tb.size = n := hn.symm
       have hnn : tb.extract n n = .empty := bytes_ext (by rw [ByteArray.data_extract, Array.toList_extract, List.extract_eq_take_drop, Nat.sub_self, List.take_zero]; rfl)
       have HF2 : Hid (∀ F : World, F.heap = (((wr.setCell ⟨gv, 1, none⟩ (.string (tx ++ hd ++ tb.extract 0 n))).setCell ⟨gu, m, none⟩ (.string .empty)).alloc (.cells #[.int .u8 (m : Int), .int .u8 (n : Int)] 5)).heap → F.os = wr.os → F.tape = wr.tape → F.output = wr.output → VgI V w F gv gu N Q k s0 (m + 1) true) := fun F hF f1 f2 f3 => HM.out F _ n (by omega) (by omega) (by rw [hF, ← HHD.out, hsz, hnn]) f1 f2 f3
       clear HM HHD hn hnn
       go_wp2_with fail
       go_region
       go_wp2_with fail
       go_region
       go_wp2_with fail
       go_roundw
       case rel => exact ⟨m + 1, true, by omega, by go_num, rfl, HF2.out _ rfl rfl rfl rfl⟩
       case measure => simp [intOf]; omega
    ·
     obtain rfl : m = N := by omega
     obtain ⟨s1, hO, hs1⟩ := hI.end
     have z0 : wr.cell? ⟨gv, 0, none⟩ = some (.slice (some ⟨gu, 0, none⟩) m m) := by
      obtain ⟨R, l, _, h2, _⟩ := hO
      exact (h2.cell 0 (by omega)).1
     clear HCS hI
     go_wp2_with fail
     go_roundg (s0 + 1)
     case measure => omega
     case rel => exact ⟨s1, more, rfl, hO, fun q => by have := hs1 q; omega⟩
/- The document's writer of frames: Write. -/
/-- The document's writer, with bytes taken. -/
def Vk.took (k : Vk) (s m : Nat) : Vk := { k with taken := k.taken + m, since := if 0 < m ∧ s = 0 then k.time else k.since }
def VwP (V : Nat → Prop) (w : World) (gv gu N : Nat) (Q : Nat → List UInt8) (k : Vk) (c : Nat) (S : ByteArray) (m : Nat) (e : Ending) (w' : World) : Prop :=
 e = .returned (.tuple #[.int .i64 (m : Nat), .int .i64 0]) ∧ Kw w w' V ∧ MemV V w' gv gu N (fun d => if d = c then Q c ++ S.data.toList.take m else Q d) (k.took (sumL N Q) m)
/-- So many bytes are taken so far. -/
def VwI (V : Nat → Prop) (w wr : World) (gv gu N : Nat) (Q : Nat → List UInt8) (k : Vk) (c : Nat) (S : ByteArray) (m : Nat) : Prop :=
 Kw w wr V ∧ MemV V wr gv gu N (fun d => if d = c then Q c ++ S.data.toList.take m else Q d) (k.took (sumL N Q) m)
theorem take_next (S : ByteArray) (m : Nat) (_hm : m < S.size) : S.data.toList.take (m + 1) = S.data.toList.take m ++ (S.extract m (m + 1)).data.toList := by
 rw [ByteArray.data_extract, Array.toList_extract, List.extract_eq_take_drop, show m + 1 - m = 1 by omega, List.take_add]
/-- What is seen of the writer at a byte. -/
theorem VwI.seen {V : Nat → Prop} {w wr : World} {gv gu N : Nat} {Q : Nat → List UInt8} {k : Vk} {c : Nat} {S : ByteArray} {m : Nat} (h : VwI V w wr gv gu N Q k c S m) (hc : c < N) (hm : m ≤ S.size) :
 wr.cell? ⟨gv, 0, none⟩ = some (.slice (some ⟨gu, 0, none⟩) N N) ∧ wr.cell? ⟨gv, 2, none⟩ = some (.int .i64 ((k.taken + m : Nat) : Int)) ∧ wr.frozen? ⟨gv, 2, none⟩ = false ∧ wr.cell? ⟨gv, 3, none⟩ = some (.int .i64 (k.time : Nat)) ∧ wr.cell? ⟨gv, 4, none⟩ = some (.int .i64 ((k.took (sumL N Q) m).since : Nat)) ∧ wr.frozen? ⟨gv, 4, none⟩ = false ∧
 (∃ tb : ByteArray, wr.cell? ⟨gu, c, none⟩ = some (.string tb) ∧ tb.size = (Q c).length + m ∧ tb = txt (Q c ++ S.data.toList.take m)) ∧ wr.frozen? ⟨gu, c, none⟩ = false := by
 obtain ⟨_, h⟩ := h
 refine ⟨(h.cell 0 (by omega)).1, (h.cell 2 (by omega)).1, (h.cell 2 (by omega)).2, (h.cell 3 (by omega)).1, (h.cell 4 (by omega)).1, (h.cell 4 (by omega)).2, ⟨txt (Q c ++ S.data.toList.take m), ?_, ?_, rfl⟩, (h.q c hc).2⟩
 ·
  have q := (h.q c hc).1
  simp only [if_true] at q
  exact q
 ·
  rw [txt_size, List.length_append, List.length_take, ← size_list]
  omega
theorem sum_took (N : Nat) (Q : Nat → List UInt8) (c : Nat) (S : ByteArray) (m : Nat) (hc : c < N) (hm : m ≤ S.size) : sumL N (fun d => if d = c then Q c ++ S.data.toList.take m else Q d) = sumL N Q + m := by
 rw [sumL_upd, if_pos hc, List.length_take, ← size_list]
 omega
/-- A byte more is taken. -/
theorem VwI.more {V : Nat → Prop} {w wr : World} {gv gu N : Nat} {Q : Nat → List UInt8} {k : Vk} {c : Nat} {S : ByteArray} {m : Nat} (h : VwI V w wr gv gu N Q k c S m) (_hc : c < N) (hm : m < S.size) (W F : World) (hW : 0 < sumL N Q + m ∧ W = wr ∨ sumL N Q + m = 0 ∧ W = wr.setCell ⟨gv, 4, none⟩ (.int .i64 (k.time : Nat)))
 (hF : F.heap = ((W.setCell ⟨gu, c, none⟩ (.string (txt (Q c ++ S.data.toList.take m) ++ S.extract m (m + 1)))).setCell ⟨gv, 2, none⟩ (.int .i64 ((k.taken + (m + 1) : Nat) : Int))).heap) (h1 : F.os = wr.os) (h2 : F.tape = wr.tape) (h3 : F.output = wr.output) :
 VwI V w F gv gu N Q k c S (m + 1) := by
 obtain ⟨hk, h⟩ := h
 have hV := h.inV
 have e1 : txt (Q c ++ S.data.toList.take m) ++ S.extract m (m + 1) = txt (Q c ++ S.data.toList.take (m + 1)) := by
  rw [take_next S m hm]
  exact bytes_ext (by rw [list_app, txt_list, txt_list, List.append_assoc])
 rw [e1] at hF
 have hWk : Kw wr W V ∧ MemV V W gv gu N (fun d => if d = c then Q c ++ S.data.toList.take m else Q d) { k.took (sumL N Q) m with since := (k.took (sumL N Q) (m + 1)).since } := by
  rcases hW with ⟨q, rfl⟩ | ⟨q, rfl⟩
  ·
   refine ⟨Kw.refl _ _, ?_⟩
   have e : (k.took (sumL N Q) (m + 1)).since = (k.took (sumL N Q) m).since := by
    unfold Vk.took
    simp only
    by_cases z : sumL N Q = 0
    · rw [if_pos ⟨by omega, z⟩, if_pos ⟨by omega, z⟩]
    · rw [if_neg (fun y => z y.2), if_neg (fun y => z y.2)]
   rw [e]
   exact h
  ·
   refine ⟨kw_set wr _ hV.1, ?_⟩
   have e : (k.took (sumL N Q) (m + 1)).since = k.time := by
    unfold Vk.took
    simp only
    rw [if_pos ⟨by omega, by omega⟩]
   rw [e]
   exact h.setSince k.time
 obtain ⟨kW, mW⟩ := hWk
 have m2 := (mW.setQ c (Q c ++ S.data.toList.take (m + 1))).setTaken (k.taken + (m + 1))
 have m3 := m2.same hF
 have eq : (fun d => if d = c then Q c ++ S.data.toList.take (m + 1) else (fun d => if d = c then Q c ++ S.data.toList.take m else Q d) d) = (fun d => if d = c then Q c ++ S.data.toList.take (m + 1) else Q d) := by
  funext d
  by_cases e : d = c
  · simp only [if_pos e]
  · simp only [if_neg e]
 rw [eq] at m3
 have k2 : Kw wr ((W.setCell ⟨gu, c, none⟩ (.string (txt (Q c ++ S.data.toList.take (m + 1))))).setCell ⟨gv, 2, none⟩ (.int .i64 ((k.taken + (m + 1) : Nat) : Int))) V := (kW.trans (kw_set W _ hV.2) (fun _ _ q => q)).trans (kw_set _ _ hV.1) (fun _ _ q => q)
 refine ⟨hk.trans (W1 := V) ⟨h1, h2, h3, by rw [hF]; exact k2.size, fun b hb hv => by rw [hF]; exact k2.block b hb hv⟩ (fun _ _ q => q), ?_⟩
 exact m3
set_option maxRecDepth 8000 in
set_option maxHeartbeats 400000 in
theorem vwrite_any (V : Nat → Prop) (gv gu N : Nat) (Q : Nat → List UInt8) (k : Vk) (c : Nat) (S : ByteArray) (w : World) (h : MemV V w gv gu N Q k) (hc : c < N) (ho : k.closed = false) (hq : (Q c).length ≤ 200) (ht : k.taken ≤ 1500) (hS : S.size ≤ 140737488400000) :
 Calls Tryz.prog 23 #[.pointer (some ⟨gv, 0, none⟩), .int .i64 (c : Int), .string S] w (VwP V w gv gu N Q k c S (takenN (Q c).length k.taken S.size)) := by
 have hN8 := h.few
 have c0 : w.cell? ⟨gv, 0, none⟩ = some (.slice (some ⟨gu, 0, none⟩) N N) := (h.cell 0 (by omega)).1
 have c5 : w.cell? ⟨gv, 5, none⟩ = some (.bool false) := by have q := (h.cell 5 (by omega)).1; rw [show vwCell gu N k 5 = .bool k.closed from rfl, ho] at q; exact q
 have hcI : (c : Int) < (N : Int) := by omega
 have d1 : decide ((c : Int) < 0) = false := by rw [decide_eq_false_iff_not]; omega
 have d2 : decide ((N : Int) ≤ (c : Int)) = false := by rw [decide_eq_false_iff_not]; omega
 have d3 : decide (N ≤ c) = false := by rw [decide_eq_false_iff_not]; omega
 have H0 : VwI V w w gv gu N Q k c S 0 := by
  refine ⟨Kw.refl _ _, ?_⟩
  have e1 : (fun d => if d = c then Q c ++ S.data.toList.take 0 else Q d) = Q := by
   funext d
   by_cases e : d = c
   · rw [if_pos e, List.take_zero, List.append_nil, e]
   · rw [if_neg e]
  have e2 : k.took (sumL N Q) 0 = k := by unfold Vk.took; simp
  rw [e1, e2]
  exact h
 obtain ⟨tn, htn⟩ : ∃ tn, tn = takenN (Q c).length k.taken S.size := ⟨_, rfl⟩
 rw [← htn]
 have htn' : tn = min S.size (min (200 - (Q c).length) (1500 - k.taken)) := htn
 have HEN : Hid (∀ wr, VwI V w wr gv gu N Q k c S tn → VwP V w gv gu N Q k c S tn (.returned (.tuple #[.int .i64 (tn : Nat), .int .i64 0])) wr) := fun wr hv => ⟨rfl, hv.1, hv.2⟩
 generalize hP : VwP V w gv gu N Q k c S tn = P at HEN ⊢
 obtain ⟨q0, hq0⟩ : ∃ q0, q0 = (Q c).length := ⟨_, rfl⟩
 obtain ⟨t0, ht0⟩ : ∃ t0, t0 = k.taken := ⟨_, rfl⟩
 rw [← hq0] at hq htn'
 rw [← ht0] at ht htn'
 have tn1 : tn ≤ S.size := by omega
 have tn2 : q0 + tn ≤ 200 := by omega
 have tn3 : t0 + tn ≤ 1500 := by omega
 have tn4 : S.size ≤ tn ∨ 200 ≤ q0 + tn ∨ 1500 ≤ t0 + tn := by omega
 have HQ0 : Hid (q0 = (Q c).length) := hq0
 have HT0 : Hid (t0 = k.taken) := ht0
 have hne1 : gv ≠ gu := h.ne
 have hne2 : gu ≠ gv := fun e => hne1 e.symm
 clear hP htn h htn' hq0 ht0
 go_enter Tryz.func23, Tryz.ntmps23
 go_wp2_with fail
 go_loopw [8] (fun i wr => ∃ m : Nat, m ≤ tn ∧ i = .int .i64 (m : Nat) ∧ VwI V w wr gv gu N Q k c S m) (fun i _ => tn - (intOf i).toNat)
 case atStart => exact ⟨0, Nat.zero_le _, rfl, H0⟩
 case round =>
  clear H0 c0 c5
  obtain ⟨m, hm, rfl, hI⟩ := hrel
  obtain ⟨s0, s2, s2f, s3, s4, s4f, ⟨tb, sq, htb, htb2⟩, sqf⟩ := hI.seen hc (by omega)
  rw [← HQ0.out] at htb
  rw [← HT0.out] at s2
  by_cases hlt : m < tn
  ·
   have dA : decide (m < S.size) = true := by rw [decide_eq_true_iff]; omega
   have dB : decide ((q0 : Int) + (m : Int) < 200) = true := by rw [decide_eq_true_iff]; omega
   have dC : decide ((t0 : Int) + (m : Int) < 1500) = true := by rw [decide_eq_true_iff]; omega
   have e7 : ((t0 + m : Nat) : Int) = (t0 : Int) + (m : Int) := by omega
   have hmS : m < S.size := by omega
   have HWT : Hid (_) := vwaiting_any V gv gu N _ _ wr hI.2
   rw [sum_took N Q c S m hc (by omega)] at HWT
   have HM : Hid (∀ W F : World, (0 < sumL N Q + m ∧ W = wr ∨ sumL N Q + m = 0 ∧ W = wr.setCell ⟨gv, 4, none⟩ (.int .i64 (k.time : Nat))) → F.heap = ((W.setCell ⟨gu, c, none⟩ (.string (tb ++ S.extract m (m + 1)))).setCell ⟨gv, 2, none⟩ (.int .i64 ((t0 : Int) + (m : Int) + 1))).heap → F.os = wr.os → F.tape = wr.tape → F.output = wr.output → VwI V w F gv gu N Q k c S (m + 1)) := fun W F hW hF h1 h2 h3 => by
    refine hI.more hc hmS W F hW ?_ h1 h2 h3
    rw [hF, htb2, ← HT0.out]
    have : ((t0 + (m + 1) : Nat) : Int) = (t0 : Int) + (m : Int) + 1 := by omega
    rw [this]
   rw [e7] at s2
   generalize sumL N Q + m = su at HWT HM
   have hsl : ∀ wq, (Instr.slice 9 (.string S) (some (.int .i64 (m : Int))) (some (.int .i64 ((m : Int) + 1))) none).run Tryz.prog wq = .ok (.string (S.extract m (m + 1))) wq := fun wq => by
    have q := run_slice_string (P := Tryz.prog) wq 9 S .i64 .i64 (m : Int) ((m : Int) + 1) Tryz.underlying9 (by omega) (by omega) (by omega)
    rw [show (m : Int).toNat = m by omega, show ((m : Int) + 1).toNat = m + 1 by omega] at q
    exact q
   clear hI HEN htb2
   go_wp2_with fail
   refine Calls.mono HWT.out ?_
   rintro e w2 ⟨rfl, rfl⟩
   by_cases hsu : 0 < su
   ·
    rw [decide_eq_true hsu]
    have HM2 : Hid (_) := fun F => HM.out w2 F (Or.inl ⟨hsu, rfl⟩)
    clear HWT HM
    go_wp2_with fail
    go_region
    go_wp2_with fail
    go_roundw
    case rel => exact ⟨m + 1, by omega, by go_num, HM2.out _ rfl rfl rfl rfl⟩
    case measure => simp [intOf]; omega
   ·
    rw [decide_eq_false hsu]
    have HM2 : Hid (_) := fun F => HM.out _ F (Or.inr ⟨by omega, rfl⟩)
    clear HWT HM
    go_wp2_with fail
    go_region
    go_wp2_with fail
    go_roundw
    case rel => exact ⟨m + 1, by omega, by go_num, HM2.out _ rfl rfl rfl rfl⟩
    case measure => simp [intOf]; omega
  ·
   obtain rfl : m = tn := by omega
   have P0 := HEN.out wr hI
   have e7 : ((t0 + m : Nat) : Int) = (t0 : Int) + (m : Int) := by omega
   rw [e7] at s2
   clear hI HEN htb2 e7
   by_cases dA : m < S.size
   ·
    have dA' : decide (m < S.size) = true := by rw [decide_eq_true_iff]; omega
    by_cases dB : q0 + m < 200
    ·
     have dB' : decide ((q0 : Int) + (m : Int) < 200) = true := by rw [decide_eq_true_iff]; omega
     have dC' : decide ((t0 : Int) + (m : Int) < 1500) = false := by rw [decide_eq_false_iff_not]; omega
     go_wp2
     exact P0
    ·
     have dB' : decide ((q0 : Int) + (m : Int) < 200) = false := by rw [decide_eq_false_iff_not]; omega
     go_wp2
     exact P0
   ·
    have dA' : decide (m < S.size) = false := by rw [decide_eq_false_iff_not]; omega
    go_wp2
    exact P0
/- The document's writer of frames: NewWriter, Flush, Tick, Close. -/
/-- What was sent, and how. -/
def Vk.sent (k : Vk) (l : List UInt8) : Vk := { k with text := k.text ++ l, last := l.length, count := k.count + 1 }
section
variable (V : Nat → Prop) (gv gu N : Nat) (Q : Nat → List UInt8) (k : Vk) (w : World)
set_option maxRecDepth 8000 in
set_option maxHeartbeats 400000 in
theorem vflush_shut (h : MemV V w gv gu N Q k) (ho : k.closed = true) :
 Calls Tryz.prog 42 #[.pointer (some ⟨gv, 0, none⟩)] w fun e w' => e = .returned (.int .i64 5) ∧ w' = w := by
 have c5 : w.cell? ⟨gv, 5, none⟩ = some (.bool true) := by have q := (h.cell 5 (by omega)).1; rw [show vwCell gu N k 5 = .bool k.closed from rfl, ho] at q; exact q
 clear h
 go_enter Tryz.func42, Tryz.ntmps42
 go_wp2
 go_ret
 exact ⟨rfl, rfl⟩
set_option maxRecDepth 8000 in
set_option maxHeartbeats 400000 in
theorem vflush_any (h : MemV V w gv gu N Q k) (ho : k.closed = false) (hq : sumL N Q ≤ 1600) (ht : k.text.length ≤ 1000000) (hcn : k.count ≤ 1000000000) :
 Calls Tryz.prog 42 #[.pointer (some ⟨gv, 0, none⟩)] w fun e w' => e = .returned (.int .i64 0) ∧ Kw w w' V ∧ MemV V w' gv gu N (fun _ => []) (k.sent (cutG N Q)) := by
 have c5 : w.cell? ⟨gv, 5, none⟩ = some (.bool false) := by have q := (h.cell 5 (by omega)).1; rw [show vwCell gu N k 5 = .bool k.closed from rfl, ho] at q; exact q
 have HG : Hid (_) := vgoes_any V gv gu N Q k w h hq ht hcn
 clear h
 go_enter Tryz.func42, Tryz.ntmps42
 go_wp2_with fail
 refine Calls.mono HG.out ?_
 rintro e w1 ⟨rfl, hk, hm⟩
 clear HG c5
 go_wp2
 go_ret
 exact ⟨rfl, hk, hm⟩
set_option maxRecDepth 8000 in
set_option maxHeartbeats 400000 in
theorem vclose_shut (h : MemV V w gv gu N Q k) (ho : k.closed = true) :
 Calls Tryz.prog 45 #[.pointer (some ⟨gv, 0, none⟩)] w fun e w' => e = .returned (.int .i64 5) ∧ w' = w := by
 have c5 : w.cell? ⟨gv, 5, none⟩ = some (.bool true) := by have q := (h.cell 5 (by omega)).1; rw [show vwCell gu N k 5 = .bool k.closed from rfl, ho] at q; exact q
 clear h
 go_enter Tryz.func45, Tryz.ntmps45
 go_wp2
 go_ret
 exact ⟨rfl, rfl⟩
set_option maxRecDepth 8000 in
set_option maxHeartbeats 400000 in
theorem vclose_any (h : MemV V w gv gu N Q k) (ho : k.closed = false) (hq : sumL N Q ≤ 1600) (ht : k.text.length ≤ 1000000) (hcn : k.count ≤ 1000000000) :
 Calls Tryz.prog 45 #[.pointer (some ⟨gv, 0, none⟩)] w fun e w' => e = .returned (.int .i64 0) ∧ Kw w w' V ∧ MemV V w' gv gu N (fun _ => []) { k.sent (cutG N Q) with closed := true } := by
 have c5 : w.cell? ⟨gv, 5, none⟩ = some (.bool false) := by have q := (h.cell 5 (by omega)).1; rw [show vwCell gu N k 5 = .bool k.closed from rfl, ho] at q; exact q
 have HG : Hid (_) := vgoes_any V gv gu N Q k w h hq ht hcn
 have hV := h.inV
 clear h
 go_enter Tryz.func45, Tryz.ntmps45
 go_wp2_with fail
 refine Calls.mono HG.out ?_
 rintro e w1 ⟨rfl, hk, hm⟩
 have y5 : w1.cell? ⟨gv, 5, none⟩ = some (.bool k.closed) := (hm.cell 5 (by omega)).1
 rw [ho] at y5
 have y5f := (hm.cell 5 (by omega)).2
 have m2 := hm.setShut
 have k2 := hk.trans (kw_set (W := V) w1 (.bool true) (i := 5) hV.1) (fun _ _ q => q)
 clear HG c5 hm hk
 go_wp2
 go_ret
 exact ⟨rfl, k2, m2⟩
/-- Does the document's Tick flush? -/
def tickF (su : Nat) (k : Vk) : Bool := decide (0 < su) && decide (k.since + 3 ≤ k.time + 1)
set_option maxRecDepth 8000 in
set_option maxHeartbeats 400000 in
theorem vtick_any (h : MemV V w gv gu N Q k) (hq : sumL N Q ≤ 1600) (ht : k.text.length ≤ 1000000) (hcn : k.count ≤ 1000000000) (htm : k.time ≤ 1000000000) (hsi : k.since ≤ 1000000000) :
 Calls Tryz.prog 44 #[.pointer (some ⟨gv, 0, none⟩)] w fun e w' => e = .returned (.bool (tickF (sumL N Q) k)) ∧ Kw w w' V ∧ (tickF (sumL N Q) k = true → MemV V w' gv gu N (fun _ => []) ({ k with time := k.time + 1 }.sent (cutG N Q))) ∧ (tickF (sumL N Q) k = false → MemV V w' gv gu N Q { k with time := k.time + 1 }) := by
 have hV := h.inV
 have c3 : w.cell? ⟨gv, 3, none⟩ = some (.int .i64 (k.time : Nat)) := (h.cell 3 (by omega)).1
 have c3f := (h.cell 3 (by omega)).2
 have h1 := h.setTime (k.time + 1)
 have k1 : Kw w (w.setCell ⟨gv, 3, none⟩ (.int .i64 ((k.time + 1 : Nat) : Int))) V := kw_set w _ hV.1
 have HWT : Hid (_) := vwaiting_any V gv gu N Q _ _ h1
 have HG : Hid (_) := vgoes_any V gv gu N Q _ _ h1 hq ht hcn
 have y3 : (w.setCell ⟨gv, 3, none⟩ (.int .i64 ((k.time + 1 : Nat) : Int))).cell? ⟨gv, 3, none⟩ = some (.int .i64 ((k.time + 1 : Nat) : Int)) := (h1.cell 3 (by omega)).1
 have y4 : (w.setCell ⟨gv, 3, none⟩ (.int .i64 ((k.time + 1 : Nat) : Int))).cell? ⟨gv, 4, none⟩ = some (.int .i64 (k.since : Nat)) := (h1.cell 4 (by omega)).1
 have eI : ((k.time + 1 : Nat) : Int) = (k.time : Int) + 1 := by omega
 rw [eI] at h1 k1 HWT HG y3 y4
 have HN : Hid (tickF (sumL N Q) k = (decide (0 < sumL N Q) && decide (k.since + 3 ≤ k.time + 1))) := rfl
 have HT : Hid (∀ w', Kw (w.setCell ⟨gv, 3, none⟩ (.int .i64 ((k.time : Int) + 1))) w' V → Kw w w' V) := fun w' q => k1.trans q (fun _ _ z => z)
 obtain ⟨ans, hans⟩ : ∃ ans, ans = tickF (sumL N Q) k := ⟨_, rfl⟩
 rw [← hans] at HN ⊢
 have H1 : Hid (MemV V (w.setCell ⟨gv, 3, none⟩ (.int .i64 ((k.time : Int) + 1))) gv gu N Q { k with time := k.time + 1 } ∧ Kw w (w.setCell ⟨gv, 3, none⟩ (.int .i64 ((k.time : Int) + 1))) V) := ⟨h1, k1⟩
 have HD : Hid (∀ q, MemV V ((w.setCell ⟨gv, 3, none⟩ (.int .i64 ((k.time : Int) + 1))).drewN q) gv gu N Q { k with time := k.time + 1 } ∧ Kw w ((w.setCell ⟨gv, 3, none⟩ (.int .i64 ((k.time : Int) + 1))).drewN q) V) := fun q => ⟨h1.same rfl, k1.drewN q⟩
 have HG2 : Hid (∀ q, Calls Tryz.prog 63 #[.pointer (some ⟨gv, 0, none⟩)] ((w.setCell ⟨gv, 3, none⟩ (.int .i64 ((k.time : Int) + 1))).drewN q) fun e w' => e = .returned (.tuple #[]) ∧ Kw w w' V ∧ MemV V w' gv gu N (fun _ => []) ({ k with time := k.time + 1 }.sent (cutG N Q))) := fun q => by
  obtain ⟨a, b⟩ := HD.out q
  refine (vgoes_any V gv gu N Q _ _ a hq ht hcn).mono ?_
  rintro e w' ⟨he, hk, hm⟩
  exact ⟨he, b.trans hk (fun _ _ z => z), hm⟩
 clear h h1 k1 eI hans HG HT H1
 by_cases hs : 0 < sumL N Q
 ·
  rw [decide_eq_true hs] at HWT HN
  by_cases hd : k.since + 3 ≤ k.time + 1
  ·
   have HE : Hid (ans = true) := by show _ = _; rw [HN.out, decide_eq_true hd]; rfl
   have d1 : decide ((k.since : Int) + 3 ≤ (k.time : Int) + 1) = true := by rw [decide_eq_true_iff]; omega
   clear HN
   go_enter Tryz.func44, Tryz.ntmps44
   go_wp2_with fail
   generalize w.setCell ⟨gv, 3, none⟩ (.int .i64 ((k.time : Int) + 1)) = W3 at HWT y3 y4 HD HG2 ⊢
   refine Calls.mono HWT.out ?_
   rintro e w1 ⟨rfl, rfl⟩
   clear HWT
   go_wp2_with fail
   go_big_quiet (fail)
   go_wp2_with fail
   refine Calls.mono (HG2.out _) ?_
   rintro e w2 ⟨rfl, hk, hm⟩
   clear HG2 HD y3 y4
   go_wp2
   go_ret
   exact ⟨by rw [HE.out]; rfl, hk, fun _ => hm, fun q => by rw [HE.out] at q; simp at q⟩
  ·
   have HE : Hid (ans = false) := by show _ = _; rw [HN.out, decide_eq_false hd]; rfl
   have d1 : decide ((k.since : Int) + 3 ≤ (k.time : Int) + 1) = false := by rw [decide_eq_false_iff_not]; omega
   clear HN
   go_enter Tryz.func44, Tryz.ntmps44
   go_wp2_with fail
   generalize w.setCell ⟨gv, 3, none⟩ (.int .i64 ((k.time : Int) + 1)) = W3 at HWT y3 y4 HD HG2 ⊢
   refine Calls.mono HWT.out ?_
   rintro e w1 ⟨rfl, rfl⟩
   clear HWT
   go_wp2_with fail
   go_big_quiet (fail)
   obtain ⟨h2, k2⟩ := HD.out nq
   clear HG2 HD y3 y4
   go_wp2
   go_ret
   exact ⟨by rw [HE.out]; rfl, k2, fun q => by rw [HE.out] at q; simp at q, fun _ => h2⟩
 ·
  rw [decide_eq_false hs] at HWT HN
  have HE : Hid (ans = false) := by show _ = _; rw [HN.out]; rfl
  clear HN
  go_enter Tryz.func44, Tryz.ntmps44
  go_wp2_with fail
  generalize w.setCell ⟨gv, 3, none⟩ (.int .i64 ((k.time : Int) + 1)) = W3 at HWT y3 y4 HD HG2 ⊢
  refine Calls.mono HWT.out ?_
  rintro e w1 ⟨rfl, rfl⟩
  clear HWT
  go_wp2_with fail
  go_big_quiet (fail)
  obtain ⟨h2, k2⟩ := HD.out nq
  clear HG2 HD y3 y4
  go_wp2
  go_ret
  exact ⟨by rw [HE.out]; rfl, k2, fun q => by rw [HE.out] at q; simp at q, fun _ => h2⟩
end
/- The two writers side by side: plain reckoning. -/
/-- Bytes of whole pieces, whose text is t. -/
def PieT (A : ByteArray) (t : List UInt8) : Prop := ∀ X : ByteArray, HasAt X 0 A.data.toList → Steps X M0 start M0 ⟨8 * A.size, t, 0, false⟩
theorem pieT_nil : PieT .empty [] := fun _ _ => Steps.refl _ _ _
theorem PieT.app {A T S : ByteArray} {t : List UInt8} (h : PieT A t) (hp : PieceOk T S) (hb : t.length + T.size ≤ 5000) : PieT (A ++ S) (t ++ T.data.toList) := fun X hX => by
 obtain ⟨q1, q2⟩ := hasAt_app hX
 rw [ByteArray.size_append]
 exact (h X q1).trans (hp.go X A.size t q2 hb)
/-- What the document reads of all that was sent. -/
structure SenT (X : ByteArray) (t : List UInt8) (fin : Bool) : Prop where
 text : (runF X).text = t
 more : fin = false → (runF X).why = 2
 done : fin = true → (runF X).why = 0 ∧ ((runF X).pos + 7) / 8 = X.size
theorem PieT.sent {A : ByteArray} {t : List UInt8} (h : PieT A t) : SenT A t false := by
 have g := h A (hasAt_all A) _ _ _ (goes_end A t)
 obtain ⟨e1, e2, _, _⟩ := runF_of g
 exact ⟨e2, fun _ => e1, fun q => by simp at q⟩
theorem PieT.ends {A T S : ByteArray} {t : List UInt8} (h : PieT A t) (hp : EndOk T S) (hb : t.length + T.size ≤ 5000) : SenT (A ++ S) (t ++ T.data.toList) true := by
 obtain ⟨q1, q2⟩ := hasAt_app (hasAt_all (A ++ S))
 obtain ⟨p, hp1, k⟩ := hp.go (A ++ S) A.size t q2 hb
 have g := h _ q1 _ _ _ (k 0 ⟨true, 0, none⟩ ⟨p, t ++ T.data.toList, 0, false⟩ (Goes.done ⟨rfl, rfl, rfl⟩))
 obtain ⟨e1, e2, _, e4⟩ := runF_of g
 refine ⟨e2, fun q => by simp at q, fun _ => ⟨e1, ?_⟩⟩
 rw [e4 rfl, ByteArray.size_append]
 exact hp1
/-- A first part of them. -/
theorem SenT.part {X : ByteArray} {t : List UInt8} {fin : Bool} (h : SenT X t fin) {A : ByteArray} (hp : Pfx A X) : (runF A).text <+: t ∧ ((runF A).why = 0 ∨ (runF A).why = 2) := by
 refine ⟨by rw [← h.text]; exact run_text hp, ?_⟩
 rcases run_mono hp with e | e
 ·
  rw [e]
  cases fin with
  | false => exact Or.inr (h.more rfl)
  | true => exact Or.inl (h.done rfl).1
 · exact Or.inr e.1
/-- The program's writer (Q, tk, wd, L, n, closed) and the document's (k); had is what was had of the stream, and it may be so long. -/
structure WsI (N : Nat) (Q : Nat → List UInt8) (tk wd : Nat) (L : List UInt8) (n : Nat) (closed : Bool) (k : Vk) (had : ByteArray) (may : Nat) (X : ByteArray) (j : Nat) : Prop where
 taken : k.taken = tk
 most : tk ≤ 1500
 few : ∀ c, c < N → (Q c).length ≤ 200
 sums : k.text.length + 3 * sumL N Q ≤ 3 * tk
 shut : k.closed = closed
 none : closed = true → ∀ c, c < N → Q c = []
 rest : sumL N Q = 0 → wd = 0
 wait : 0 < sumL N Q → k.since + wd = k.time
 wd2 : wd ≤ 2
 open_ : closed = false → PieT X k.text
 sent : SenT X k.text closed
 all : had.data.toList ++ L = X.data.toList
 fit : X.size ≤ may
 long : X.size ≤ k.text.length + 5 * k.count
 nn : n ≤ X.size
 count : k.count ≤ j
 time : k.time ≤ j
 since : k.since ≤ j
 begun : 0 < k.count ∨ X.size = 0
section
variable {N : Nat} {Q : Nat → List UInt8} {tk wd : Nat} {L : List UInt8} {n : Nat} {closed : Bool} {k : Vk} {had : ByteArray} {may : Nat} {X : ByteArray} {j : Nat}
theorem wsI_new (N : Nat) : WsI N (fun _ => []) 0 0 [] 0 false vk0 .empty 0 .empty 0 :=
 ⟨rfl, by omega, fun _ _ => by simp, by rw [sumL_nil]; show 0 ≤ _; omega, rfl, fun q => by simp at q, fun _ => rfl, fun q => by rw [sumL_nil] at q; omega, by omega, fun _ => pieT_nil, pieT_nil.sent, rfl, Nat.le_refl _, by show 0 ≤ _; omega, Nat.le_refl _, Nat.le_refl _, Nat.le_refl _, Nat.le_refl _, Or.inr rfl⟩
theorem WsI.later (h : WsI N Q tk wd L n closed k had may X j) {j' : Nat} (hj : j ≤ j') : WsI N Q tk wd L n closed k had may X j' :=
 ⟨h.taken, h.most, h.few, h.sums, h.shut, h.none, h.rest, h.wait, h.wd2, h.open_, h.sent, h.all, h.fit, h.long, h.nn, Nat.le_trans h.count hj, Nat.le_trans h.time hj, Nat.le_trans h.since hj, h.begun⟩
/-- Bytes are taken. -/
theorem WsI.wrote (h : WsI N Q tk wd L n false k had may X j) (c : Nat) (hc : c < N) (S : ByteArray) (m : Nat) (hm : m = takenN (Q c).length tk S.size) :
 WsI N (fun d => if d = c then Q c ++ S.data.toList.take m else Q d) (tk + m) wd L n false (k.took (sumL N Q) m) had may X j := by
 have hm1 : m ≤ S.size := by rw [hm]; unfold takenN; omega
 have hm2 : m ≤ 200 - (Q c).length := by rw [hm]; unfold takenN; omega
 have hm3 : m ≤ 1500 - tk := by rw [hm]; unfold takenN; omega
 have hl : (S.data.toList.take m).length = m := by rw [List.length_take, ← size_list]; omega
 have h1 := h.most
 have h2 := h.sums
 have h3 := h.few c hc
 have hsum : sumL N (fun d => if d = c then Q c ++ S.data.toList.take m else Q d) = sumL N Q + m := by rw [sumL_upd, if_pos hc, hl]
 refine ⟨by show k.taken + m = _; rw [h.taken], by omega, fun d hd => ?_, by rw [hsum]; show k.text.length + _ ≤ _; omega, h.shut, fun q => by simp at q, fun q => h.rest (by omega), fun q => ?_, h.wd2, h.open_, h.sent, h.all, h.fit, h.long, h.nn, h.count, h.time, ?_, h.begun⟩
 ·
  by_cases e : d = c
  ·
   subst e
   simp only [if_true]
   rw [List.length_append, hl]
   omega
  · simp only [if_neg e]; exact h.few d hd
 ·
  show (if 0 < m ∧ sumL N Q = 0 then k.time else k.since) + wd = k.time
  rw [hsum] at q
  by_cases z : sumL N Q = 0
  · rw [if_pos ⟨by omega, z⟩, h.rest z]; omega
  · rw [if_neg (fun y => z y.2)]; exact h.wait (by omega)
 ·
  show (if 0 < m ∧ sumL N Q = 0 then k.time else k.since) ≤ j
  split
  · exact h.time
  · exact h.since
/-- What waits is sent. -/
theorem WsI.flushed (h : WsI N Q tk wd L n false k had may X j) {T S : ByteArray} (hc : CutsE N T.data.toList Q) (hb : T.size ≤ 3 * sumL N Q) (hp : PieceOk T S) (m' : Nat) (hm : T.size + T.size / 8 + 24 ≤ m') (ti : Nat) (ht : ti ≤ j + 1) :
 WsI N (fun _ => []) tk 0 (L ++ S.data.toList) (n + S.size) false ({ k with time := ti }.sent (cutG N Q)) had (may + m') (X ++ S) (j + 1) := by
 have h1 := h.most
 have h2 := h.sums
 have hpl := hp.len
 have hTl : T.data.toList = cutG N Q := hc.2
 have hTs : (cutG N Q).length = T.size := by rw [← hTl, ← size_list]
 have hP : PieT (X ++ S) (k.text ++ T.data.toList) := (h.open_ rfl).app hp (by omega)
 rw [hTl] at hP
 have hl := h.long
 have hf := h.fit
 have hn := h.nn
 have hco := h.count
 have hsi := h.since
 refine ⟨h.taken, h.most, fun _ _ => by simp, ?_, h.shut, fun q => by simp at q, fun _ => rfl, fun q => by rw [sumL_nil] at q; omega, by omega, fun _ => hP, hP.sent, ?_, by rw [ByteArray.size_append]; omega, ?_, by rw [ByteArray.size_append]; omega, by show k.count + 1 ≤ _; omega, ht, by show k.since ≤ _; omega, Or.inl (by show 0 < k.count + 1; omega)⟩
 ·
  rw [sumL_nil]
  show (k.text ++ cutG N Q).length + _ ≤ _
  rw [List.length_append]
  omega
 · rw [← List.append_assoc, h.all, list_app]
 ·
  show (X ++ S).size ≤ (k.text ++ cutG N Q).length + 5 * (k.count + 1)
  rw [ByteArray.size_append, List.length_append]
  omega
/-- The stream is ended. -/
theorem WsI.ended (h : WsI N Q tk wd L n false k had may X j) {T S : ByteArray} (hc : CutsE N T.data.toList Q) (hb : T.size ≤ 3 * sumL N Q) (hp : EndOk T S) (m' : Nat) (hm : T.size + T.size / 8 + 24 ≤ m') :
 WsI N (fun _ => []) tk 0 (L ++ S.data.toList) (n + S.size) true { k.sent (cutG N Q) with closed := true } had (may + m') (X ++ S) (j + 1) := by
 have h1 := h.most
 have h2 := h.sums
 have hpl := hp.len
 have hTl : T.data.toList = cutG N Q := hc.2
 have hTs : (cutG N Q).length = T.size := by rw [← hTl, ← size_list]
 have hP : SenT (X ++ S) (k.text ++ T.data.toList) true := (h.open_ rfl).ends hp (by omega)
 rw [hTl] at hP
 have hl := h.long
 have hf := h.fit
 have hn := h.nn
 have hco := h.count
 have hsi := h.since
 have hti := h.time
 refine ⟨h.taken, h.most, fun _ _ => by simp, ?_, rfl, fun _ _ _ => rfl, fun _ => rfl, fun q => by rw [sumL_nil] at q; omega, by omega, fun q => by simp at q, hP, ?_, by rw [ByteArray.size_append]; omega, ?_, by rw [ByteArray.size_append]; omega, by show k.count + 1 ≤ _; omega, by show k.time ≤ _; omega, by show k.since ≤ _; omega, Or.inl (by show 0 < k.count + 1; omega)⟩
 ·
  rw [sumL_nil]
  show (k.text ++ cutG N Q).length + _ ≤ _
  rw [List.length_append]
  omega
 · rw [← List.append_assoc, h.all, list_app]
 ·
  show (X ++ S).size ≤ (k.text ++ cutG N Q).length + 5 * (k.count + 1)
  rw [ByteArray.size_append, List.length_append]
  omega
/-- Time goes by, and nothing is sent. -/
theorem WsI.ticked (h : WsI N Q tk wd L n closed k had may X j) (wd' : Nat) (hw : sumL N Q = 0 ∧ wd' = wd ∨ 0 < sumL N Q ∧ wd < 2 ∧ wd' = wd + 1) : WsI N Q tk wd' L n closed { k with time := k.time + 1 } had may X (j + 1) := by
 have hco := h.count
 have hsi := h.since
 have hti := h.time
 have hw2 := h.wd2
 refine ⟨h.taken, h.most, h.few, h.sums, h.shut, h.none, fun q => ?_, fun q => ?_, by omega, h.open_, h.sent, h.all, h.fit, h.long, h.nn, by show k.count ≤ _; omega, by show k.time + 1 ≤ _; omega, by show k.since ≤ _; omega, h.begun⟩
 ·
  rcases hw with z | z
  · rw [z.2]; exact h.rest q
  · omega
 ·
  show k.since + wd' = k.time + 1
  rcases hw with z | z
  · omega
  · have := h.wait q; omega
/-- Both writers flush at the same tick. -/
theorem WsI.tick (h : WsI N Q tk wd L n closed k had may X j) : tickF (sumL N Q) k = decide (0 < sumL N Q ∧ wd = 2) := by
 unfold tickF
 by_cases q : 0 < sumL N Q
 ·
  have h1 := h.wait q
  have h2 := h.wd2
  rw [decide_eq_true q, Bool.true_and]
  by_cases z : wd = 2
  · rw [decide_eq_true (by omega), decide_eq_true ⟨q, z⟩]
  · rw [decide_eq_false (by omega), decide_eq_false (fun y => z y.2)]
 ·
  have e : decide (0 < sumL N Q ∧ wd = 2) = false := decide_eq_false (fun y => q y.1)
  rw [decide_eq_false q, e]
  rfl
/-- Bytes are had of the stream. -/
theorem WsI.wired (h : WsI N Q tk wd L n closed k had may X j) (m : Nat) : WsI N Q tk wd (L.drop m) n closed k (had ++ ⟨(L.take m).toArray⟩) may X j ∧ Pfx (had ++ ⟨(L.take m).toArray⟩) X ∧ (had ++ ⟨(L.take m).toArray⟩ : ByteArray).size ≤ may := by
 have et : (⟨(L.take m).toArray⟩ : ByteArray).data.toList = L.take m := rfl
 have ha : (had ++ ⟨(L.take m).toArray⟩ : ByteArray).data.toList ++ L.drop m = X.data.toList := by
  rw [list_app, et, List.append_assoc, List.take_append_drop]; exact h.all
 have hx : X = had ++ ⟨(L.take m).toArray⟩ ++ ⟨(L.drop m).toArray⟩ := bytes_ext (by rw [list_app]; exact ha.symm)
 have p2 : Pfx (had ++ ⟨(L.take m).toArray⟩) X := by
  have := pfx_app (had ++ ⟨(L.take m).toArray⟩) ⟨(L.drop m).toArray⟩
  rw [← hx] at this
  exact this
 exact ⟨⟨h.taken, h.most, h.few, h.sums, h.shut, h.none, h.rest, h.wait, h.wd2, h.open_, h.sent, ha, h.fit, h.long, h.nn, h.count, h.time, h.since, h.begun⟩, p2, by have := p2.size; have := h.fit; omega⟩
theorem WsI.whole (h : WsI N Q tk wd L n closed k had may X j) (m : Nat) (hm : L.length < m) : had ++ ⟨(L.take m).toArray⟩ = X := bytes_ext (by
 rw [list_app]
 show had.data.toList ++ L.take m = _
 rw [List.take_of_length_le (by omega)]
 exact h.all)
theorem WsI.size (h : WsI N Q tk wd L n closed k had may X j) : X.size ≤ 4500 + 5 * j ∧ had.size + L.length = X.size ∧ k.text.length ≤ 4500 := by
 have h1 := h.long
 have h2 := h.sums
 have h3 := h.most
 have h4 := h.count
 refine ⟨by omega, ?_, by omega⟩
 have e := congrArg List.length h.all
 rw [List.length_append, ← size_list, ← size_list] at e
 exact e
end
end Go.Proofs.YtecddphahiadlaaGreatDoor
