import Derived.Test.YtecddphahiadlaaDoorCGFeed
import Derived.Test.YtecddphahiadlaaDoorCLinW
import Derived.Deep.CutBlock
import Derived.Deep.RegionWith
import Derived.BigRegion
/- The table of the order, later on. -/
namespace Go.Proofs.YtecddphahiadlaaDoor
open Go.RowKit

theorem OrdIn.later {w w' : World} (h : OrdIn w 1) (hb : Below w.heap.size w w') (h0 : 1 < w.heap.size) : OrdIn w' 1 :=
  h.kp (Kp.below hb w.heap.size (.slice none 0 0)) (by omega) (by simp [Value.ownBlock])

end Go.Proofs.YtecddphahiadlaaDoor

/- Two lines of the statements, side by side. -/
namespace Go.Proofs.YtecddphahiadlaaDoor
open Go.RowKit

/-- Where a line lies, and what it knows. -/
structure La where
  gl : Nat
  gw : Nat
  gr : Nat
  k : Lk

/-- Two lines, made since w0; their readers had AX and AY. -/
def Pr (w0 w : World) (N : Nat) (X Y : La) (AX AY : ByteArray) (RX RY : Nat → List UInt8) : Prop :=
  ∃ Xw Xr Yw Yr Qx tkx wdx Lx nx cx Qy tky wdy Ly ny cy, MemL Xw Xr w0.heap.size w X.gl X.gw X.gr N X.k Qx tkx wdx Lx nx cx AX RX ∧ MemL Yw Yr w0.heap.size w Y.gl Y.gw Y.gr N Y.k Qy tky wdy Ly ny cy AY RY ∧
    (∀ b, LB X.gl Xw Xr b → ¬ LB Y.gl Yw Yr b) ∧ (∀ b, LB X.gl Xw Xr b → w0.heap.size ≤ b) ∧ (∀ b, LB Y.gl Yw Yr b → w0.heap.size ≤ b) ∧ Below w0.heap.size w0 w

theorem Pr.swap {w0 w : World} {N : Nat} {X Y : La} {AX AY : ByteArray} {RX RY : Nat → List UInt8} (h : Pr w0 w N X Y AX AY RX RY) : Pr w0 w N Y X AY AX RY RX := by
  obtain ⟨Xw, Xr, Yw, Yr, Qx, tkx, wdx, Lx, nx, cx, Qy, tky, wdy, Ly, ny, cy, h1, h2, h3, h4, h5, h6⟩ := h
  exact ⟨Yw, Yr, Xw, Xr, Qy, tky, wdy, Ly, ny, cy, Qx, tkx, wdx, Lx, nx, cx, h2, h1, fun b q q2 => h3 b q2 q, h5, h4, h6⟩

theorem Kw.toBelow {w0 w w' : World} {W : Nat → Prop} (h : Below w0.heap.size w0 w) (hk : Kw w w' W) (hW : ∀ b, W b → w0.heap.size ≤ b) : Below w0.heap.size w0 w' :=
  ⟨hk.os.trans h.os, hk.tape.trans h.tape, hk.output.trans h.output, Nat.le_trans h.size hk.size, fun b hb => (hk.block b (by have := h.size; omega) (fun e => by have := hW b e; omega)).trans (h.block b hb)⟩

theorem LB_reader {gl : Nat} {Ww Wr : Nat → Prop} {n n' : Nat} {b : Nat} (h : LB gl Ww (WN Wr n n') b) : LB gl Ww Wr b ∨ n ≤ b := by
  rcases h with q | q | q | q
  · exact Or.inl (Or.inl q)
  · exact Or.inl (Or.inr (Or.inl q))
  · exact Or.inl (Or.inr (Or.inr q))
  · exact Or.inr q.1

theorem LB_writer {gl : Nat} {Ww Wr : Nat → Prop} {n n' : Nat} {b : Nat} (h : LB gl (WN Ww n n') Wr b) : LB gl Ww Wr b ∨ n ≤ b := by
  rcases h with q | (q | q) | q
  · exact Or.inl (Or.inl q)
  · exact Or.inl (Or.inr (Or.inl q))
  · exact Or.inr q.1
  · exact Or.inl (Or.inr (Or.inr q))
theorem sep_step {gx : Nat} {Xw Xr V : Nat → Prop} {n n' : Nat} (h : ∀ b, LB gx Xw Xr b → ¬ V b) (hl : ∀ b, V b → b < n) : ∀ b, LB gx (WN Xw n n') Xr b → ¬ V b := fun b q q2 => by
  rcases LB_writer q with q | q
  · exact h b q q2
  · have := hl b q2; omega
theorem low_step {gx : Nat} {Xw Xr : Nat → Prop} {s n n' : Nat} (h : ∀ b, LB gx Xw Xr b → s ≤ b) (hl : s ≤ n) : ∀ b, LB gx (WN Xw n n') Xr b → s ≤ b := fun b q => by
  rcases LB_writer q with q | q
  · exact h b q
  · omega

/-- One reader goes on. -/
theorem Pr.reader {w0 w : World} {N : Nat} {X Y : La} {AX AY : ByteArray} {RX RY : Nat → List UInt8} (h : Pr w0 w N X Y AX AY RX RY) : ∃ Xr, MemR Xr w0.heap.size w X.gr N AX RX ∧
    ∀ w' A' R', Kw w w' Xr → MemR (WN Xr w.heap.size w'.heap.size) w0.heap.size w' X.gr N A' R' → Pr w0 w' N X Y A' AY R' RY := by
  obtain ⟨Xw, Xr, Yw, Yr, Qx, tkx, wdx, Lx, nx, cx, Qy, tky, wdy, Ly, ny, cy, h1, h2, h3, h4, h5, h6⟩ := h
  refine ⟨Xr, h1.rd, fun w' A' R' hk hr => ⟨Xw, _, Yw, Yr, Qx, tkx, wdx, Lx, nx, cx, Qy, tky, wdy, Ly, ny, cy, h1.reader hk hr, h2.frame hk (fun b q q2 => h3 b (Or.inr (Or.inr q2)) q), fun b q q2 => ?_, fun b q => ?_, h5, hk.toBelow h6 (fun b q => h4 b (Or.inr (Or.inr q)))⟩⟩
  · rcases LB_reader q with q | q
    · exact h3 b q q2
    · have := h2.live b q2; omega
  · rcases LB_reader q with q | q
    · exact h4 b q
    · have := h6.size; omega

section
variable {w0 w : World} {N : Nat} {X Y : La} {AX AY : ByteArray} {RX RY : Nat → List UInt8}
theorem Pr.below (h : Pr w0 w N X Y AX AY RX RY) : Below w0.heap.size w0 w := by
  obtain ⟨Xw, Xr, Yw, Yr, Qx, tkx, wdx, Lx, nx, cx, Qy, tky, wdy, Ly, ny, cy, h1, h2, h3, h4, h5, h6⟩ := h
  exact h6
theorem Pr.drew (h : Pr w0 w N X Y AX AY RX RY) : Pr w0 w.drew N X Y AX AY RX RY := by
  obtain ⟨Xw, Xr, Yw, Yr, Qx, tkx, wdx, Lx, nx, cx, Qy, tky, wdy, Ly, ny, cy, h1, h2, h3, h4, h5, h6⟩ := h
  exact ⟨Xw, Xr, Yw, Yr, Qx, tkx, wdx, Lx, nx, cx, Qy, tky, wdy, Ly, ny, cy, h1.same rfl, h2.same rfl, h3, h4, h5, h6.drew⟩
theorem Pr.cells (h : Pr w0 w N X Y AX AY RX RY) : w.cell? ⟨X.gl, 0, none⟩ = some (.int .i64 (N : Nat)) ∧ w.cell? ⟨X.gl, 2, none⟩ = some (.pointer (some ⟨X.gr, 0, none⟩)) ∧ w.cell? ⟨X.gl, 3, none⟩ = some (.string (X.k.taken 0)) := by
  obtain ⟨Xw, Xr, Yw, Yr, Qx, tkx, wdx, Lx, nx, cx, Qy, tky, wdy, Ly, ny, cy, h1, h2, h3, h4, h5, h6⟩ := h
  exact ⟨(h1.cell 0 (by omega)).1, (h1.cell 2 (by omega)).1, (h1.cell 3 (by omega)).1⟩
theorem Pr.feed (h : Pr w0 w N X Y AX AY RX RY) (T : ByteArray) (ha : ansF N AX = 0) (hA : AX.size + T.size ≤ 140737488400000) (h0 : 1 < w0.heap.size) (hord : OrdIn w0 1) :
    Calls Tryd.prog 18 #[.pointer (some ⟨X.gr, 0, none⟩), .string T] w fun e w' => e = .returned (.int .i64 (ansF N (AX ++ T) : Nat)) ∧ Pr w0 w' N X Y (AX ++ T) AY RX RY := by
  obtain ⟨Xr, hr, hg⟩ := h.reader
  refine (mfeed_any Xr w0.heap.size X.gr N AX T RX w hr ha h.below.size hA h0 (hord.later h.below h0)).mono ?_
  rintro e w' ⟨he, hk, hm⟩
  exact ⟨he, hg _ _ _ hk hm⟩
theorem Pr.feedDead (h : Pr w0 w N X Y AX AY RX RY) (T : ByteArray) (ha : ansF N AX ≠ 0) :
    Calls Tryd.prog 18 #[.pointer (some ⟨X.gr, 0, none⟩), .string T] w fun e w' => e = .returned (.int .i64 7) ∧ w' = w := by
  obtain ⟨Xr, hr, _⟩ := h.reader
  exact mfeed_dead Xr w0.heap.size X.gr N AX T RX w hr ha
theorem Pr.done (h : Pr w0 w N X Y AX AY RX RY) :
    Calls Tryd.prog 20 #[.pointer (some ⟨X.gr, 0, none⟩)] w fun e w' => e = .returned (.bool (decide (ansF N AX = 0 ∧ (runF AX).why = 0))) ∧ w' = w := by
  obtain ⟨Xr, hr, _⟩ := h.reader
  exact mdone_any Xr w0.heap.size X.gr N AX RX w hr
theorem Pr.readC (h : Pr w0 w N X Y AX AY RX RY) (c : Nat) (hc : c < N) (most : Int) (hm : most ≤ 9223372036854775807) (hm0 : -9223372036854775808 ≤ most) :
    Calls Tryd.prog 19 #[.pointer (some ⟨X.gr, 0, none⟩), .int .i64 (c : Int), .int .i64 most] w fun e w' => e = .returned (.tuple #[.string ⟨(nextF N AX RX c most.toNat).toArray⟩, .int .i64 0]) ∧ Pr w0 w' N X Y AX AY (readR RX c (nextF N AX RX c most.toNat)) RY := by
  obtain ⟨Xr, hr, hg⟩ := h.reader
  refine (mread_any Xr w0.heap.size X.gr N AX RX c most w hr hc hm hm0).mono ?_
  rintro e w' ⟨he, hk, hm⟩
  exact ⟨he, hg _ _ _ hk hm⟩
/-- A dead reader is dead of whatever bytes come. -/
theorem Pr.stays (h : Pr w0 w N X Y AX AY RX RY) (hd : ansF N AX ≠ 0) (T : ByteArray) : Pr w0 w N X Y (AX ++ T) AY RX RY := by
  obtain ⟨Xw, Xr, Yw, Yr, Qx, tkx, wdx, Lx, nx, cx, Qy, tky, wdy, Ly, ny, cy, h1, h2, h3⟩ := h
  exact ⟨Xw, Xr, Yw, Yr, Qx, tkx, wdx, Lx, nx, cx, Qy, tky, wdy, Ly, ny, cy, ⟨h1.row, h1.wr, h1.rd.stays hd T, h1.sep, h1.lw, h1.lr⟩, h2, h3⟩
end

end Go.Proofs.YtecddphahiadlaaDoor

/- Portions: the walk. -/
namespace Go.Proofs.YtecddphahiadlaaDoor
open Go.RowKit

theorem ex_list (A : ByteArray) (i j : Nat) : (A.extract i j).data.toList = (A.data.toList.drop i).take (j - i) := by
  rw [ByteArray.data_extract, Array.toList_extract, List.extract_eq_take_drop]
theorem extract_grow (A : ByteArray) (k : Nat) : A.extract 0 k ++ A.extract k (k + 1) = A.extract 0 (k + 1) := bytes_ext (by
  rw [list_app, ex_list, ex_list, ex_list, Nat.sub_zero, Nat.sub_zero, List.drop_zero, show k + 1 - k = 1 by omega, List.take_add])
theorem extract_rest (A : ByteArray) (k : Nat) : A.extract 0 k ++ A.extract k A.size = A := bytes_ext (by
  rw [list_app, ex_list, ex_list, List.drop_zero, Nat.sub_zero, List.take_of_length_le (l := List.drop k A.data.toList) (by rw [List.length_drop, ← size_list]; exact Nat.le_refl _), List.take_append_drop])
theorem extract_all (A : ByteArray) : A.extract 0 A.size = A := bytes_ext (by
  rw [ex_list, List.drop_zero, Nat.sub_zero, List.take_of_length_le (by rw [← size_list]; exact Nat.le_refl _)])
theorem emp_app (A : ByteArray) : ByteArray.empty ++ A = A := bytes_ext (by rw [list_app]; rfl)
theorem extract_none (A : ByteArray) : A.extract 0 0 = .empty := bytes_ext (by rw [ByteArray.data_extract, Array.toList_extract, List.extract_eq_take_drop, Nat.sub_self, List.take_zero]; rfl)

def r0 : Nat → List UInt8 := fun _ => []

/-- The reader that has the bytes one by one. -/
def ByOne (w0 : World) (N : Nat) (X Y : La) (A : ByteArray) (k : Nat) (g : Value) (w : World) : Prop :=
  g = .int .i64 (ansF N (A.extract 0 k) : Nat) ∧ Pr w0 w N Y X (A.extract 0 k) A r0 r0
/-- Both have all. -/
def Both (w0 : World) (N : Nat) (X Y : La) (A : ByteArray) (g : Value) (w : World) : Prop :=
  g = .int .i64 (ansF N A : Nat) ∧ Pr w0 w N X Y A A r0 r0

theorem ByOne.end {w0 w : World} {N : Nat} {X Y : La} {A : ByteArray} {k : Nat} {g : Value} (h : ByOne w0 N X Y A k g w) (hk : k = A.size ∨ ansF N (A.extract 0 k) ≠ 0) : Both w0 N X Y A g w := by
  obtain ⟨hg, hp⟩ := h
  rcases hk with q | q
  · subst q
    rw [extract_all] at hg hp
    exact ⟨hg, hp.swap⟩
  · have e := (ansF_stays (A.extract k A.size) q).1
    have p := hp.stays q (A.extract k A.size)
    rw [extract_rest] at e p
    exact ⟨by rw [hg, e], p.swap⟩

/-- Both readers read channels, one behind the other. -/
def Reads (w0 : World) (N : Nat) (X Y : La) (A : ByteArray) (k : Nat) (w : World) : Prop :=
  ∃ R, (∀ c, k ≤ c → R c = []) ∧ Pr w0 w N X Y A A R R

theorem prefix_take {α : Type} {p l : List α} {n : Nat} (h : p <+: l) (hn : p.length ≤ n) : p <+: l.take n := by
  obtain ⟨r, rfl⟩ := h
  rw [List.take_append, List.take_of_length_le hn]
  exact List.prefix_append _ _

set_option maxRecDepth 4000 in
set_option maxHeartbeats 1000000 in
theorem portions_any (c : Int) (text bytes : ByteArray) (w : World) (h1 : -9223372036854775808 ≤ c) (h2 : c ≤ 9223372036854775807) (ht : text.size ≤ 140737488355328) (hb : bytes.size ≤ 140737488355328) (h0 : 1 < w.heap.size) (hord : OrdIn w 1) :
    Calls Tryd.prog 6 #[.int .i64 c, .string text, .string bytes] w fun e w' => e = .returned (.bool true) ∧ Below w.heap.size w w' := by
  obtain ⟨N, hN⟩ : ∃ N : Nat, (N : Int) = 1 + pickN c 8 := ⟨(1 + pickN c 8).toNat, by have := pickN_bd c 8 (by omega); omega⟩
  have hbd := pickN_bd c 8 (by omega)
  have hN1 : 1 ≤ N := by omega
  have hN8 : N ≤ 8 := by omega
  obtain ⟨m, hm⟩ : ∃ m, m = takenN 0 0 text.size := ⟨_, rfl⟩
  have hm1 : m ≤ 200 := by rw [hm]; unfold takenN; omega
  have hm2 : m ≤ text.size := by rw [hm]; unfold takenN; omega
  clear hbd
  go_enter Tryd.func6, Tryd.ntmps6
  go_wp2_with fail
  refine (line_any w.heap.size N c w h1 h2 hN (Nat.le_refl _)).mono ?_
  rintro e w1 ⟨gx, gxw, gxr, Xw, Xr, rfl, hb1, hx, hxl⟩
  go_wp2_with fail
  refine (line_any w.heap.size N c w1 h1 h2 hN hb1.size).mono ?_
  rintro e w2 ⟨gy, gyw, gyr, Yw, Yr, rfl, hb2, hy, hyl⟩
  have hsep : ∀ b, LB gx Xw Xr b → ¬ LB gy Yw Yr b := fun b q q2 => by have := hx.live b q; have := hyl b q2; omega
  have hx2 := hx.frame (V := fun _ => False) (Kw.below hb2) (fun _ _ q => q)
  have hB2 := hb1.trans (hb2.mono hb1.size)
  have hyl2 : ∀ b, LB gy Yw Yr b → w.heap.size ≤ b := fun b q => Nat.le_trans hb1.size (hyl b q)
  clear hx hb1 hb2 hyl hN h1 h2
  go_wp2_with fail
  refine (writes_any Xw Xr w.heap.size gx gxw gxr N lk0 (fun _ => []) 0 0 [] 0 .empty (fun _ => []) 0 0 text m w2 hx2 (by omega) (by omega) hN1 hN8 (by unfold pickN; simp) hm (by simp) (by omega) rfl (by simp) (by show 0 ≤ 5000; omega) (by show ByteArray.empty.size ≤ 5000; decide) hB2.size (by omega)).mono ?_
  rintro e w3 ⟨rfl, hk3, hx3⟩
  have hy3 := hy.frame hk3 (fun b q q2 => hsep b q2 q)
  have hB3 := hk3.toBelow hB2 hxl
  have hsep3 := sep_step (n := w2.heap.size) (n' := w3.heap.size) hsep hy.live
  have hxl3 := low_step (n := w2.heap.size) (n' := w3.heap.size) hxl hB2.size
  generalize hXw : WN Xw w2.heap.size w3.heap.size = Xw3 at hx3 hsep3 hxl3
  have hc1 := (hx3.cell 1 (by omega)).1
  rw [(lnCell_fix N gxw gxr _).2.1] at hc1
  have hsq : sumL N (fun d => if d = 0 then ([] : List UInt8) ++ text.data.toList.take m else []) ≤ 1600 := by
    have q := sumL_upd (fun _ => []) 0 (text.data.toList.take m) N
    rw [sumL_nil] at q
    rw [q]
    split
    · rw [List.length_take]; omega
    · omega
  have HFL : Hid (_) := flush_open _ _ _ _ _ _ _ _ _ _ hx3.wr hN1 hsq hB3.size (by omega)
  clear hx2 hk3 hy hB2 hsep hxl hXw
  go_wp2_with fail
  refine Calls.mono HFL.out ?_
  rintro e w4 ⟨T, S, rfl, hcu, hTz, hS, hk4, hw4⟩
  have hx4 := hx3.writer hk4 hw4
  have hy4 := hy3.frame hk4 (fun b q q2 => hsep3 b (Or.inr (Or.inl q2)) q)
  have hB4 := hk4.toBelow hB3 (fun b q => hxl3 b (Or.inr (Or.inl q)))
  have hsep4 := sep_step (n := w3.heap.size) (n' := w4.heap.size) hsep3 hy3.live
  have hxl4 := low_step (n := w3.heap.size) (n' := w4.heap.size) hxl3 hB3.size
  generalize hXw : WN Xw3 w3.heap.size w4.heap.size = Xw4 at hx4 hsep4 hxl4
  have hd1 := (hx4.cell 1 (by omega)).1
  rw [(lnCell_fix N gxw gxr _).2.1] at hd1
  have hSl := hS.len
  have HWI : Hid (_) := wire_any _ _ _ _ _ _ _ _ _ _ 1073741824 _ hx4.wr (by omega) (by omega) (by omega)
  clear HFL hx3 hy3 hk4 hw4 hB3 hsep3 hxl3 hXw hc1
  go_wp2_with fail
  refine Calls.mono HWI.out ?_
  rintro e w5 ⟨rfl, hk5, hw5⟩
  have hx5 := hx4.writer hk5 hw5
  have hy5 := hy4.frame hk5 (fun b q q2 => hsep4 b (Or.inr (Or.inl q2)) q)
  have hB5 := hk5.toBelow hB4 (fun b q => hxl4 b (Or.inr (Or.inl q)))
  have hsep5 := sep_step (n := w4.heap.size) (n' := w5.heap.size) hsep4 hy4.live
  have hxl5 := low_step (n := w4.heap.size) (n' := w5.heap.size) hxl4 hB4.size
  have eS : (⟨(([] ++ S.data.toList : List UInt8).take (1073741824 : Int).toNat).toArray⟩ : ByteArray) = S := by
    rw [List.nil_append]
    exact take_whole S _ (by show S.size ≤ 1073741824; omega)
  rw [eS]
  have hP5 : Pr w w5 N ⟨gx, gxw, gxr, lk0.wrote 0 text m⟩ ⟨gy, gyw, gyr, lk0⟩ .empty .empty r0 r0 :=
    ⟨_, _, _, _, _, _, _, _, _, _, _, _, _, _, _, _, hx5, hy5, hsep5, hxl5, hyl2, hB5⟩
  have hbeg : ((lk0.wrote 0 text m).taken 0).data.toList <+: (gotF N (S ++ bytes)).ch 0 ∧ ((lk0.wrote 0 text m).taken 0).data.toList.length ≤ 200 := by
    have et : ((lk0.wrote 0 text m).taken 0).data.toList = text.data.toList.take m := by
      show (ByteArray.empty ++ text.extract 0 m).data.toList = _
      rw [emp_app, take_list]
    have f := ((pieces_nil N).app hcu hTz hS (by rw [sumL_nil]; omega)).full.behind bytes 0
    rw [emp_app] at f
    rw [et]
    refine ⟨?_, by rw [List.length_take]; omega⟩
    simpa [show 0 < N by omega] using f
  have hSz : S.size ≤ 10000 := by omega
  clear HWI hx4 hy4 hk5 hw5 hB4 hsep4 hxl4 hd1 hx5 hy5 hsep5 hxl5 hyl2 hB5 eS hcu hTz hS hsq hm hm2
  generalize hX : (⟨gx, gxw, gxr, lk0.wrote 0 text m⟩ : La) = X at hP5
  generalize hY : (⟨gy, gyw, gyr, lk0⟩ : La) = Y at hP5
  obtain rfl : gx = X.gl := by rw [← hX]
  obtain rfl : gy = Y.gl := by rw [← hY]
  have hbeg' : (X.k.taken 0).data.toList <+: (gotF N (S ++ bytes)).ch 0 ∧ (X.k.taken 0).data.toList.length ≤ 200 := by rw [← hX]; exact hbeg
  clear hbeg hX hY
  obtain ⟨A, hA⟩ : ∃ A, A = S ++ bytes := ⟨_, rfl⟩
  have hAs : A.size ≤ 140737488390000 := by rw [hA, ByteArray.size_append]; omega
  rw [← hA] at hbeg'
  have HFE : Hid (_) := hP5.feed A (ansF_empty N) (by show 0 + A.size ≤ _; omega) h0 hord
  obtain ⟨_, x2, _⟩ := hP5.cells
  clear hP5
  have hcI : (S.size : Int) + (bytes.size : Int) ≤ 9223372036854775807 := by omega
  go_wp2_with fail
  rw [← hA]
  clear hA
  refine Calls.mono HFE.out ?_
  rintro e w6 ⟨rfl, hP6⟩
  rw [emp_app] at hP6 ⊢
  clear HFE x2
  go_upto_block 0 with fail
  go_cut [12, 13] (fun g _ wr => Both w N X Y A g wr)
  case first =>
    go_wp2_with fail
    go_loopw [12, 13] (fun g i wr => ∃ k : Nat, k ≤ A.size ∧ i = .int .i64 (k : Nat) ∧ ByOne w N X Y A k g wr) (fun _ i _ => A.size - (intOf i).toNat)
    case atStart => exact ⟨0, Nat.zero_le _, rfl, by rw [extract_none, ansF_empty]; rfl, by rw [extract_none]; exact hP6.swap⟩
    case round =>
      obtain ⟨k, hk, rfl, hB⟩ := hrel
      obtain ⟨rfl, hp⟩ := hB
      by_cases hlt : k < A.size
      · by_cases ha : ansF N (A.extract 0 k) = 0
        · have HF : Hid (_) := hp.drew.feed (A.extract k (k + 1)) ha (by rw [ByteArray.size_extract, ByteArray.size_extract]; omega) h0 hord
          rw [extract_grow A k] at HF
          obtain ⟨_, y2, _⟩ := hp.cells
          rw [ha]
          have hwk : IntKind.i64.wrap ((k : Int) + 1) = (k : Int) + 1 := by rw [IntKind.wrap_i64]; omega
          have hsl : ∀ wq, (Instr.slice 9 (.string A) (some (.int .i64 (k : Int))) (some (.int .i64 ((k : Int) + 1))) none).run Tryd.prog wq = .ok (.string (A.extract k (k + 1))) wq := fun wq => by
            have q := run_slice_string (P := Tryd.prog) wq 9 A .i64 .i64 (k : Int) ((k : Int) + 1) Tryd.underlying9 (by omega) (by omega) (by omega)
            rw [show (k : Int).toNat = k by omega, show ((k : Int) + 1).toNat = k + 1 by omega] at q
            exact q
          clear hp ha hP6
          go_wp2_with fail
          go_region_with (go_at_call 18; refine Calls.mono HF.out ?_; rintro e w7 ⟨rfl, hp7⟩)
          all_goals
            have hp7' : Pr w w7 N Y X (A.extract 0 (k + 1)) A r0 r0 := hp7
            clear HF y2 hp7
            go_wp2_with fail
            go_roundw
            case rel => exact ⟨k + 1, by omega, by go_num, rfl, hp7'⟩
            case measure => simp [intOf]; omega
        · have hE : Both w N X Y A _ wr := ByOne.end ⟨rfl, hp⟩ (Or.inr ha)
          generalize ansF N (A.extract 0 k) = a at ha hE ⊢
          have haI : ((a : Int) == 0) = false := by rw [beq_eq_false_iff_ne]; omega
          clear hp hP6
          go_wp2_with fail
          go_meet
          exact hE
      · obtain rfl : k = A.size := by omega
        have hE : Both w N X Y A _ wr := ByOne.end ⟨rfl, hp⟩ (Or.inl rfl)
        generalize ansF N (A.extract 0 A.size) = a at hE ⊢
        clear hp hP6
        go_wp2_with fail
        go_meet
        exact hE
  case rest =>
    obtain ⟨rfl, hp⟩ := hcut
    clear hP6
    have haS := ansF_small N A
    obtain ⟨a, haa⟩ : ∃ a, a = ansF N A := ⟨_, rfl⟩
    rw [← haa] at haS ⊢
    have HA : Hid (a = ansF N A) := haa
    have HB : Hid (∀ R, R 0 = [] → begB (X.k.taken 0) ⟨(nextF N A R 0 1073741824).toArray⟩ = true ∧ (X.k.taken 0).size ≤ 200) := fun R hR => by
      refine ⟨?_, by rw [size_list]; exact hbeg'.2⟩
      unfold begB
      rw [decide_eq_true_iff]
      show _ <+: nextF N A R 0 1073741824
      unfold nextF
      rw [hR]
      exact prefix_take hbeg'.1 (by have := hbeg'.2; omega)
    have HL : Hid (∀ R k, (⟨(nextF N A R k 1073741824).toArray⟩ : ByteArray).size ≤ 1073741824) := fun R k => by
      rw [size_list]
      show (nextF N A R k 1073741824).length ≤ _
      unfold nextF
      exact List.length_take_le _ _
    clear haa hbeg' hSl hSz hcI hm1 ht hb
    go_wp2_with fail
    go_loopw [14] (fun i wr => ∃ k : Nat, k ≤ N ∧ i = .int .i64 (k : Nat) ∧ Reads w N X Y A k wr) (fun i _ => N - (intOf i).toNat)
    case atStart => exact ⟨0, Nat.zero_le _, rfl, r0, fun _ _ => rfl, hp⟩
    case round =>
      clear hp
      obtain ⟨k, hk, rfl, R, hR, hp⟩ := hrel
      obtain ⟨x0, x2, x3⟩ := hp.cells
      obtain ⟨_, y2, _⟩ := hp.swap.cells
      by_cases hlt : k < N
      · have HX : Hid (_) := hp.readC k hlt 1073741824 (by omega) (by omega)
        go_wp2_with fail
        refine Calls.mono HX.out ?_
        rintro e w7 ⟨rfl, hp7⟩
        have HY : Hid (_) := hp7.swap.readC k hlt 1073741824 (by omega) (by omega)
        obtain ⟨_, y2', _⟩ := hp7.swap.cells
        clear HX hp hp7 x0 x2 x3 y2
        go_wp2_with fail
        refine Calls.mono HY.out ?_
        rintro e w8 ⟨rfl, hp8⟩
        have hp8' := hp8.swap
        obtain ⟨z0, z2, z3⟩ := hp8'.cells
        clear HY hp8 y2'
        have hR' : ∀ c, k + 1 ≤ c → readR R k (nextF N A R k (1073741824 : Int).toNat) c = [] := fun c hc => by
          unfold readR
          rw [if_neg (by omega)]
          exact hR c (by omega)
        have hlen := HL.out R k
        have e9 : (1073741824 : Int).toNat = 1073741824 := rfl
        rw [e9] at hp8' hR' ⊢
        by_cases hk0 : k = 0
        · subst hk0
          obtain ⟨hb1, hb2⟩ := HB.out R (hR 0 (Nat.le_refl _))
          generalize nextF N A R 0 1073741824 = s at hp8' hR' hlen hb1 ⊢
          generalize (⟨s.toArray⟩ : ByteArray) = sb at hlen hb1 ⊢
          go_wp2_with fail
          refine (begins_any (X.k.taken 0) sb w8 (by unfold maxLen; omega) (by unfold maxLen; omega)).mono ?_
          rintro e w9 ⟨rfl, rfl⟩
          rw [hb1]
          clear z0 z2 z3 hb1
          go_wp2_with fail
          go_roundw
          case rel => exact ⟨0 + 1, by omega, by go_num, _, hR', hp8'⟩
          case measure => simp [intOf]; omega
        · generalize nextF N A R k 1073741824 = s at hp8' hR' hlen ⊢
          generalize (⟨s.toArray⟩ : ByteArray) = sb at hlen ⊢
          have hkI : ((k : Int) == 0) = false := by rw [beq_eq_false_iff_ne]; omega
          go_wp2_with fail
          go_roundw
          case rel => exact ⟨k + 1, by omega, by go_num, _, hR', hp8'⟩
          case measure => simp [intOf]; omega
      · obtain rfl : k = N := by omega
        have HD : Hid (_) := hp.done
        have HE : Hid (_) := hp.swap.done
        generalize decide (ansF k A = 0 ∧ (runF A).why = 0) = dn at HD HE
        go_wp2_with fail
        refine Calls.mono HD.out ?_
        rintro e w7 ⟨rfl, rfl⟩
        go_wp2_with fail
        refine Calls.mono HE.out ?_
        rintro e w8 ⟨rfl, rfl⟩
        have hbl := hp.below
        by_cases ha : a = 0
        · subst ha
          have HF : Hid (_) := hp.feed .empty HA.out.symm (by show A.size + 0 ≤ _; omega) h0 hord
          have e8 : A ++ ByteArray.empty = A := bytes_ext (by rw [list_app]; exact List.append_nil _)
          rw [e8, ← HA.out] at HF
          have h00 : ((0 : Nat) : Int) = 0 := rfl
          rw [h00] at HF ⊢
          clear HD HE hp h00
          go_wp2_with fail
          refine Calls.mono HF.out ?_
          rintro e w9 ⟨rfl, hp9⟩
          have hbl9 := hp9.below
          clear HF hp9
          go_wp2
          go_ret
          exact ⟨rfl, hbl9⟩
        · have HF : Hid (_) := hp.feedDead .empty (by rw [← HA.out]; exact ha)
          have haI : ((a : Int) == 0) = false := by rw [beq_eq_false_iff_ne]; omega
          clear HD HE hp
          go_wp2_with fail
          refine Calls.mono HF.out ?_
          rintro e w9 ⟨rfl, rfl⟩
          clear HF
          have hane : ((a : Int) != 0) = true := by rw [bne, haI]; rfl
          go_wp2
          go_ret
          exact ⟨rfl, hbl⟩

end Go.Proofs.YtecddphahiadlaaDoor
