import Derived.Test.YtecddphahiadlaaGreatDoorCChaA
import Derived.Test.YtecddphahiadlaaGreatDoorCWtrW
import Derived.Test.YtecddphahiadlaaGreatDoorCPair
import Derived.Test.YtecddphahiadlaaGreatDoorCChaX
import Derived.Deep.RegionWith
import Derived.Deep.CutBlock
import Derived.BigRegion
/- Channels: writers. -/
namespace Go.Proofs.YtecddphahiadlaaGreatDoor
open Go.RowKit
section
variable {w0 w : World} {col : Nat → Nat} {gW : Nat} {f : Nat → Value} {x : Nat → List Value} {WL : List We} {RL : List Re} {j : Nat}
set_option maxRecDepth 8000 in
set_option maxHeartbeats 400000 in
/-- Refused. -/
theorem ChaS.writers_bad (h : ChaS w0 col w gW f x WL RL j) (c : Int) (hc : c < 1 ∨ 8 < c) :
 Calls Tryz.prog 21 #[ptr gW, .int .i64 c] w fun r w' => r = .returned (.bool true) ∧ Cha w0 w' gW WL.length RL.length (j + 1) := by
 have HQ : Hid (Cha w0 w gW WL.length RL.length (j + 1)) := h.laterC
 have HN : Hid (_) := newWriter_bad c w hc
 have HV : Hid (_) := vnew_bad c w hc
 clear h
 unfold ptr at *
 go_enter Tryz.func21, Tryz.ntmps21
 go_wp2_with fail
 refine Calls.mono HN.out ?_
 rintro r w1 ⟨rfl, rfl⟩
 clear HN
 go_wp2_with fail
 refine Calls.mono HV.out ?_
 rintro r w1 ⟨rfl, rfl⟩
 clear HV
 go_wp2_with fail
 refine (numc_any _ _).mono ?_
 rintro r w2 ⟨rfl, rfl⟩
 go_wp2
 go_ret
 exact ⟨rfl, HQ.out⟩
set_option maxRecDepth 8000 in
set_option maxHeartbeats 400000 in
/-- Refused. -/
theorem ChaS.readers_bad (h : ChaS w0 col w gW f x WL RL j) (c : Int) (hc : c < 1 ∨ 8 < c) :
 Calls Tryz.prog 22 #[ptr gW, .int .i64 c] w fun r w' => r = .returned (.bool true) ∧ Cha w0 w' gW WL.length RL.length (j + 1) := by
 have HQ : Hid (Cha w0 w gW WL.length RL.length (j + 1)) := h.laterC
 have HN : Hid (_) := newReader_bad c w hc
 have HV : Hid (_) := qnew_bad c w hc
 clear h
 unfold ptr at *
 go_enter Tryz.func22, Tryz.ntmps22
 go_wp2_with fail
 refine Calls.mono HN.out ?_
 rintro r w1 ⟨rfl, rfl⟩
 clear HN
 go_wp2_with fail
 refine Calls.mono HV.out ?_
 rintro r w1 ⟨rfl, rfl⟩
 clear HV
 go_wp2_with fail
 refine (numc_any _ _).mono ?_
 rintro r w2 ⟨rfl, rfl⟩
 go_wp2
 go_ret
 exact ⟨rfl, HQ.out⟩
end
/- Channels: a list of the World's has one more: the append, then the field. -/
/-- The World on the way. -/
def MidC (w0 w : World) (gW : Nat) (f : Nat → Value) (x : Nat → List Value) (WL : List We) (RL : List Re) : Prop := ∃ col, Wld w0.heap.size col w gW f x WL RL ∧ Below w0.heap.size w0 w
section
variable {w0 w : World} {gW : Nat} {f : Nat → Value} {x : Nat → List Value} {WL : List We} {RL : List Re}
theorem MidC.made (h : MidC w0 w gW f x WL RL) {w' : World} (hb : Below w.heap.size w w') : MidC w0 w' gW f x WL RL := by
 obtain ⟨col, h, hB⟩ := h
 exact ⟨recol col 7 w, h.other (Kw.below hb) (by omega) (fun s a b => by omega) (fun i _ => ⟨by omega, by omega⟩) (fun i _ => ⟨by omega, by omega⟩), Kw.onto (W := fun _ => False) hB (Kw.below hb) (fun b z => z.elim)⟩
theorem MidC.cell (h : MidC w0 w gW f x WL RL) (i : Nat) (hi : i < 8) : w.cell? ⟨gW, i, none⟩ = some (f i) := by
 obtain ⟨col, h, hB⟩ := h
 exact h.row.cell hi
theorem MidC.frozen (h : MidC w0 w gW f x WL RL) (i : Nat) : w.frozen? ⟨gW, i, none⟩ = false := by
 obtain ⟨col, h, hB⟩ := h
 exact h.row.frozen i
/-- One more is laid behind. -/
theorem MidC.app (h : MidC w0 w gW f x WL RL) (s : Nat) (hs1 : 1 ≤ s) (hs6 : s ≤ 6) {ops : Array Oper} {rest : List Oper} {o : Oper} {a : Act} {Q : Exit → Act → World → Prop}
 (hg : o.guard = none) (so xo : Operand) (t T : TypeId) (hT : rowT s = T) (hop : o.op = Op.call { callee := Callee.builtin Builtin.append, args := #[so, xo], argTypes := #[t, t] })
 (z : Value) (bytes : Nat) (h1 : Tryz.prog.underlying t = some (.slice T)) (hinfo : (Tryz.prog.info? T).map (fun i => (i.zero, i.size, i.bytes)) = some (some z, 1, bytes)) (hz1 : z.cells.size = 1) (hby : bytes ≤ 64)
 (u : Value) (hu : u.oneCell' = true) (hs : a.eval so = f (s + 1)) (sz : Nat) (hsz : w.heap.size = sz) (hx : a.eval xo = .slice (some ⟨sz, 0, none⟩) 1 1) (n : Nat) (hn : (x s).length = n) (b1 : n ≤ 1000000000)
 (hK : ∀ g' cap' w' f' x', MidC w0 (w'.setCell ⟨gW, s + 1, none⟩ (.slice (some ⟨g', 0, none⟩) (n + 1) cap')) gW f' x' WL RL → (∀ i, i ≠ s + 1 → f' i = f i) → x' s = x s ++ [u] → (∀ i, i ≠ s → x' i = x i) →
  w'.rowIs gW 63 8 f → wpList Tryz.prog ops Q rest (a.put o.dst (.slice (some ⟨g', 0, none⟩) (n + 1) cap')) w') :
 wpList Tryz.prog ops Q (o :: rest) a (w.alloc (.cells #[u] T)) := by
 subst hn
 obtain ⟨col, h, hB⟩ := h
 have hr := h.rows s hs1 hs6
 rw [hT] at hr
 have hmul : ((x s).length + 1) * bytes ≤ 1000000001 * 64 := Nat.mul_le_mul (by omega) hby
 refine wpList_append1s w hg so xo t hop w0.heap.size T z bytes h1 hinfo hz1 (f (s + 1)) (x s).length (x s) u hs hu sz hsz hx hr.own hB.size (by unfold maxLen; omega) (by omega) ?_
 intro g' cap' w' ho hd hgr
 have hb : Below w.heap.size w (w.alloc (.cells #[u] T)) := (Below.refl _ _).alloc (Nat.le_refl _) _
 obtain ⟨col1, m1, hB1⟩ := MidC.made ⟨col, h, hB⟩ hb
 rw [← hT] at ho
 obtain ⟨m2, r2, k2⟩ := m1.grow hs1 hs6 (y := u) (v' := .slice (some ⟨g', 0, none⟩) ((x s).length + 1) cap') (g' := g') rfl ho (by simpa using hd) hgr
 refine hK g' cap' w' _ _ ⟨_, m2, ?_⟩ (fun i hi => if_neg hi) (if_pos rfl) (fun i hi => if_neg hi) r2
 exact Kw.onto (Kw.onto hB1 k2 (fun b z => z.1)) (kw_set w' _ (own_same (id := s) m1.own (by omega) k2.size)) (fun b z => z.1)
end
theorem infoW1 : (Tryz.prog.info? 36).map (fun i => (i.zero, i.size, i.bytes)) = some (some (.pointer none), 1, 8) := by kernel_rfl
theorem infoW2 : (Tryz.prog.info? 66).map (fun i => (i.zero, i.size, i.bytes)) = some (some (.pointer none), 1, 8) := by kernel_rfl
theorem infoR1 : (Tryz.prog.info? 37).map (fun i => (i.zero, i.size, i.bytes)) = some (some (.pointer none), 1, 8) := by kernel_rfl
theorem infoR2 : (Tryz.prog.info? 106).map (fun i => (i.zero, i.size, i.bytes)) = some (some (.pointer none), 1, 8) := by kernel_rfl
theorem infoS : (Tryz.prog.info? 9).map (fun i => (i.zero, i.size, i.bytes)) = some (some (.string .empty), 1, 16) := by kernel_rfl
theorem infoI : (Tryz.prog.info? 3).map (fun i => (i.zero, i.size, i.bytes)) = some (some (.int .i64 0), 1, 8) := by kernel_rfl
theorem undW1 : Tryz.prog.underlying 57 = some (.slice 36) := by kernel_rfl
theorem undW2 : Tryz.prog.underlying 58 = some (.slice 66) := by kernel_rfl
theorem undR1 : Tryz.prog.underlying 59 = some (.slice 37) := by kernel_rfl
theorem undR2 : Tryz.prog.underlying 60 = some (.slice 106) := by kernel_rfl
theorem undS : Tryz.prog.underlying 56 = some (.slice 9) := by kernel_rfl
theorem undI : Tryz.prog.underlying 61 = some (.slice 3) := by kernel_rfl
/- Channels: writers, readers: one is made. -/
section
variable {w0 w : World} {col : Nat → Nat} {gW : Nat} {f : Nat → Value} {x : Nat → List Value} {WL : List We} {RL : List Re} {j : Nat}
/-- The new pair is in the World's lists. -/
theorem ChaS.addW (h : ChaS w0 col w gW f x WL RL j) {w' : World} {f' : Nat → Value} {x' : Nat → List Value} {gx gv gu N : Nat} (h1 : 1 ≤ N) (hM : MidC w0 w' gW f' x' (WL ++ [newE gx gv gu N]) RL) (e1 : x' 1 = x 1 ++ [ptr gx]) (e2 : x' 2 = x 2 ++ [ptr gv]) (e3 : x' 3 = x 3) (e4 : x' 4 = x 4) (e5 : x' 5 = x 5 ++ [.string .empty]) (e6 : x' 6 = x 6 ++ [.int .i64 0]) :
 ∃ col', ChaS w0 col' w' gW f' x' (WL ++ [newE gx gv gu N]) RL (j + 1) := by
 obtain ⟨col', hm, hb⟩ := hM
 refine ⟨col', hm, hb, ?_, ?_, ?_, ?_, ?_, ?_, fun i y hy => ?_, fun i y hy => (h.rs i y hy).later (Nat.le_succ j), ?_⟩
 · rw [e1, h.x1, List.map_append]; rfl
 · rw [e2, h.x2, List.map_append]; rfl
 · rw [e3]; exact h.x3
 · rw [e4]; exact h.x4
 · rw [e5, h.x5, List.map_append]; rfl
 · rw [e6, h.x6, List.map_append]; rfl
 ·
  rcases last_cases hy with ⟨_, rfl⟩ | hy
  · exact newE_I h1 _
  · exact (h.ws i y hy).later (Nat.le_succ j)
 ·
  have := h.many
  rw [List.length_append]
  show WL.length + 1 ≤ _ ∧ _
  omega
theorem ChaS.addR (h : ChaS w0 col w gW f x WL RL j) {w' : World} {f' : Nat → Value} {x' : Nat → List Value} {gx gq gg N : Nat} (h1 : 1 ≤ N) (hM : MidC w0 w' gW f' x' WL (RL ++ [newR gx gq gg N])) (e1 : x' 1 = x 1) (e2 : x' 2 = x 2) (e3 : x' 3 = x 3 ++ [ptr gx]) (e4 : x' 4 = x 4 ++ [ptr gq]) (e5 : x' 5 = x 5) (e6 : x' 6 = x 6) :
 Cha w0 w' gW WL.length (RL.length + 1) (j + 1) := by
 obtain ⟨col', hm, hb⟩ := hM
 refine ⟨col', f', x', WL, RL ++ [newR gx gq gg N], ⟨hm, hb, ?_, ?_, ?_, ?_, ?_, ?_, fun i y hy => (h.ws i y hy).later (Nat.le_succ j), fun i y hy => ?_, ?_⟩, rfl, by rw [List.length_append]; rfl⟩
 · rw [e1]; exact h.x1
 · rw [e2]; exact h.x2
 · rw [e3, h.x3, List.map_append]; rfl
 · rw [e4, h.x4, List.map_append]; rfl
 · rw [e5]; exact h.x5
 · rw [e6]; exact h.x6
 ·
  rcases last_cases hy with ⟨_, rfl⟩ | hy
  · exact newR_I h1 _
  · exact (h.rs i y hy).later (Nat.le_succ j)
 ·
  have := h.many
  rw [List.length_append]
  show _ ∧ RL.length + 1 ≤ _
  omega
set_option maxRecDepth 8000 in
set_option maxHeartbeats 400000 in
/-- One writer more. -/
theorem ChaS.writers_ok (h : ChaS w0 col w gW f x WL RL j) (N : Nat) (h1 : 1 ≤ N) (hN : N ≤ 8) (hj : j ≤ 2000000) :
 Calls Tryz.prog 21 #[ptr gW, .int .i64 (N : Int)] w fun r w' => r = .returned (.bool true) ∧ ∃ col' f' x' gx gv gu, ChaS w0 col' w' gW f' x' (WL ++ [newE gx gv gu N]) RL (j + 1) := by
 have HN : Hid (_) := newWriter_any w0.heap.size N w h1 hN h.mem.low
 have HM : Hid (∀ w1 w2 gx gv gu, MemW (fun b => w.heap.size ≤ b ∧ b < w1.heap.size) w0.heap.size w1 gx N (fun _ => []) 0 0 [] 0 false → Below w.heap.size w w1 → MemV (newV w1 w2) w2 gv gu N (fun _ => []) vk0 → Below w1.heap.size w1 w2 → MidC w0 w2 gW f x (WL ++ [newE gx gv gu N]) RL) := fun w1 w2 gx gv gu hm b1 hv b2 => by
  obtain ⟨col', hw⟩ := h.mem.newW hm b1 hv b2
  exact ⟨col', hw, Kw.onto (W := fun _ => False) (Kw.onto (W := fun _ => False) h.below (Kw.below b1) (fun b z => z.elim)) (Kw.below b2) (fun b z => z.elim)⟩
 have HF : Hid (∀ (w' : World) (f' : Nat → Value) (x' : Nat → List Value) (gx gv gu : Nat), MidC w0 w' gW f' x' (WL ++ [newE gx gv gu N]) RL → x' 1 = x 1 ++ [ptr gx] → x' 2 = x 2 ++ [ptr gv] → x' 3 = x 3 → x' 4 = x 4 → x' 5 = x 5 ++ [.string .empty] → x' 6 = x 6 ++ [.int .i64 0] → ∃ col', ChaS w0 col' w' gW f' x' (WL ++ [newE gx gv gu N]) RL (j + 1)) := fun w' f' x' gx gv gu hM e1 e2 e3 e4 e5 e6 => h.addW h1 hM e1 e2 e3 e4 e5 e6
 have l1 : (x 1).length = WL.length := by rw [h.x1, List.length_map]
 have l2 : (x 2).length = WL.length := by rw [h.x2, List.length_map]
 have l5 : (x 5).length = WL.length := by rw [h.x5, List.length_map]
 have l6 : (x 6).length = WL.length := by rw [h.x6, List.length_map]
 have hmany := h.many.1
 clear h
 unfold ptr at *
 go_enter Tryz.func21, Tryz.ntmps21
 go_wp2_with fail
 refine Calls.mono HN.out ?_
 rintro r w1 ⟨gx, rfl, hgx, hm, b1⟩
 clear HN
 go_wp2_with fail
 refine (vnew_any N w1 h1 hN).mono ?_
 rintro r w2 ⟨gv, gu, rfl, hv, b2⟩
 have hM := HM.out w1 w2 gx gv gu hm b1 hv b2
 clear HM hm b1 hv b2
 have c2 := hM.cell 2 (by omega)
 have z2 := hM.frozen 2
 go_wp2_with fail
 refine (numc_any _ _).mono ?_
 rintro r w3 ⟨rfl, rfl⟩
 go_wp2_with (first | (at_builtin; (refine hM.app 1 (by omega) (by omega) rfl (.tmp 36) (.tmp 38) 57 36 rfl rfl (.pointer none) 8 undW1 infoW1 rfl (by omega) (.pointer (some ⟨gx, 0, none⟩)) rfl rfl w3.heap.size rfl rfl WL.length l1 (by omega) ?_)) | fail)
 intro g1 cap1 w4 f1 x1 hM1 hf1 e11 e10 r1
 have c2 := r1.cell (i := 2) (by omega)
 have c3 := r1.cell (i := 3) (by omega)
 have z2 := r1.frozen 2
 clear hM
 go_wp2_with (first | (at_builtin; (refine hM1.app 2 (by omega) (by omega) rfl (.tmp 46) (.tmp 48) 58 66 rfl rfl (.pointer none) 8 undW2 infoW2 rfl (by omega) (.pointer (some ⟨gv, 0, none⟩)) rfl (hf1 3 (by omega)).symm w4.heap.size (by simp [World.setCell]) rfl WL.length ((congrArg List.length (e10 2 (by omega))).trans l2) (by omega) ?_)) | fail)
 intro g2 cap2 w5 f2 x2 hM2 hf2 e21 e20 r2
 have c3 := r2.cell (i := 3) (by omega)
 have c6 := r2.cell (i := 6) (by omega)
 have z3 := r2.frozen 3
 clear hM1 r1
 go_wp2_with (first | (at_builtin; (refine hM2.app 5 (by omega) (by omega) rfl (.tmp 56) (.tmp 57) 56 9 rfl rfl (.string .empty) 16 undS infoS rfl (by omega) (.string .empty) rfl ((hf2 6 (by omega)).trans (hf1 6 (by omega))).symm w5.heap.size (by simp [World.setCell]) rfl WL.length ((congrArg List.length ((e20 5 (by omega)).trans (e10 5 (by omega)))).trans l5) (by omega) ?_)) | fail)
 intro g3 cap3 w6 f3 x3 hM3 hf3 e31 e30 r3
 have c6 := r3.cell (i := 6) (by omega)
 have c7 := r3.cell (i := 7) (by omega)
 have z6 := r3.frozen 6
 clear hM2 r2
 go_wp2_with (first | (at_builtin; (refine hM3.app 6 (by omega) (by omega) rfl (.tmp 65) (.tmp 66) 61 3 rfl rfl (.int .i64 0) 8 undI infoI rfl (by omega) (.int .i64 0) rfl ((hf3 7 (by omega)).trans ((hf2 7 (by omega)).trans (hf1 7 (by omega)))).symm w6.heap.size (by simp [World.setCell]) rfl WL.length ((congrArg List.length ((e30 6 (by omega)).trans ((e20 6 (by omega)).trans (e10 6 (by omega))))).trans l6) (by omega) ?_)) | fail)
 intro g4 cap4 w7 f4 x4 hM4 hf4 e41 e40 r4
 have c7 := r4.cell (i := 7) (by omega)
 have z7 := r4.frozen 7
 clear hM3 r3
 go_wp2
 go_ret
 obtain ⟨col', hC⟩ := HF.out _ f4 x4 gx gv gu hM4 (by rw [e40 1 (by omega), e30 1 (by omega), e20 1 (by omega), e11]) (by rw [e40 2 (by omega), e30 2 (by omega), e21]) (by rw [e40 3 (by omega), e30 3 (by omega), e20 3 (by omega), e10 3 (by omega)]) (by rw [e40 4 (by omega), e30 4 (by omega), e20 4 (by omega), e10 4 (by omega)]) (by rw [e40 5 (by omega), e31]) (by rw [e41])
 exact ⟨rfl, col', f4, x4, gx, gv, gu, hC⟩
set_option maxRecDepth 8000 in
set_option maxHeartbeats 400000 in
/-- One reader more. -/
theorem ChaS.readers_ok (h : ChaS w0 col w gW f x WL RL j) (N : Nat) (h1 : 1 ≤ N) (hN : N ≤ 8) (hj : j ≤ 2000000) :
 Calls Tryz.prog 22 #[ptr gW, .int .i64 (N : Int)] w fun r w' => r = .returned (.bool true) ∧ Cha w0 w' gW WL.length (RL.length + 1) (j + 1) := by
 have HN : Hid (_) := newReader_any w0.heap.size N w h1 hN h.mem.low
 have HM : Hid (∀ w1 w2 gx gv gu, MemA (fun b => w.heap.size ≤ b ∧ b < w1.heap.size) w0.heap.size w1 gx N .empty (fun _ => []) false → Below w.heap.size w w1 → MemQ (newV w1 w2) w2 gv gu N .empty 0 (fun _ => []) → Below w1.heap.size w1 w2 → MidC w0 w2 gW f x WL (RL ++ [newR gx gv gu N])) := fun w1 w2 gx gv gu hm b1 hv b2 => by
  obtain ⟨col', hw⟩ := h.mem.newR hm b1 hv b2
  exact ⟨col', hw, Kw.onto (W := fun _ => False) (Kw.onto (W := fun _ => False) h.below (Kw.below b1) (fun b z => z.elim)) (Kw.below b2) (fun b z => z.elim)⟩
 have HF : Hid (∀ (w' : World) (f' : Nat → Value) (x' : Nat → List Value) (gx gv gu : Nat), MidC w0 w' gW f' x' WL (RL ++ [newR gx gv gu N]) → x' 1 = x 1 → x' 2 = x 2 → x' 3 = x 3 ++ [ptr gx] → x' 4 = x 4 ++ [ptr gv] → x' 5 = x 5 → x' 6 = x 6 → Cha w0 w' gW WL.length (RL.length + 1) (j + 1)) := fun w' f' x' gx gv gu hM e1 e2 e3 e4 e5 e6 => h.addR h1 hM e1 e2 e3 e4 e5 e6
 have l3 : (x 3).length = RL.length := by rw [h.x3, List.length_map]
 have l4 : (x 4).length = RL.length := by rw [h.x4, List.length_map]
 have hmany := h.many.2
 clear h
 unfold ptr at *
 go_enter Tryz.func22, Tryz.ntmps22
 go_wp2_with fail
 refine Calls.mono HN.out ?_
 rintro r w1 ⟨gx, rfl, hgx, hm, b1⟩
 clear HN
 go_wp2_with fail
 refine (qnew_any N w1 h1 hN).mono ?_
 rintro r w2 ⟨gv, gu, rfl, hv, b2⟩
 have hM := HM.out w1 w2 gx gv gu hm b1 hv b2
 clear HM hm b1 hv b2
 have c4 := hM.cell 4 (by omega)
 have z4 := hM.frozen 4
 go_wp2_with fail
 refine (numc_any _ _).mono ?_
 rintro r w3 ⟨rfl, rfl⟩
 go_wp2_with (first | (at_builtin; (refine hM.app 3 (by omega) (by omega) rfl (.tmp 36) (.tmp 38) 59 37 rfl rfl (.pointer none) 8 undR1 infoR1 rfl (by omega) (.pointer (some ⟨gx, 0, none⟩)) rfl rfl w3.heap.size rfl rfl RL.length l3 (by omega) ?_)) | fail)
 intro g1 cap1 w4 f1 x1 hM1 hf1 e11 e10 r1
 have c4 := r1.cell (i := 4) (by omega)
 have c5 := r1.cell (i := 5) (by omega)
 have z4 := r1.frozen 4
 clear hM
 go_wp2_with (first | (at_builtin; (refine hM1.app 4 (by omega) (by omega) rfl (.tmp 46) (.tmp 48) 60 106 rfl rfl (.pointer none) 8 undR2 infoR2 rfl (by omega) (.pointer (some ⟨gv, 0, none⟩)) rfl (hf1 5 (by omega)).symm w4.heap.size (by simp [World.setCell]) rfl RL.length ((congrArg List.length (e10 4 (by omega))).trans l4) (by omega) ?_)) | fail)
 intro g2 cap2 w5 f2 x2 hM2 hf2 e21 e20 r2
 have c5 := r2.cell (i := 5) (by omega)
 have z5 := r2.frozen 5
 clear hM1 r1
 go_wp2
 go_ret
 exact ⟨rfl, HF.out _ f2 x2 gx gv gu hM2 (by rw [e20 1 (by omega), e10 1 (by omega)]) (by rw [e20 2 (by omega), e10 2 (by omega)]) (by rw [e20 3 (by omega), e11]) (by rw [e21]) (by rw [e20 5 (by omega), e10 5 (by omega)]) (by rw [e20 6 (by omega), e10 6 (by omega)])⟩
end
/- Channels: wire. -/
section
variable {w0 w : World} {col : Nat → Nat} {gW : Nat} {f : Nat → Value} {x : Nat → List Value} {WL : List We} {RL : List Re} {j : Nat}
theorem wire_text {t v : List UInt8} (h : t <+: v) : (∀ wq, (Instr.slice 9 (.string (txt v)) none (some (.int .i64 ((txt t).size : Int))) none).run Tryz.prog wq = .ok (.string (txt t)) wq) ∧ (txt t).size ≤ (txt v).size ∧ (txt t).size = t.length ∧ (txt v).size = v.length := by
 have hle : (txt t).size ≤ (txt v).size := by rw [txt_size, txt_size]; exact h.length_le
 refine ⟨fun wq => ?_, hle, txt_size t, txt_size v⟩
 have q := run_slice_string_h (P := Tryz.prog) (w := wq) (t := 9) (s := txt v) Tryz.underlying9 .i64 ((txt t).size : Int) (by omega) (by omega)
 rw [q, show (((txt t).size : Nat) : Int).toNat = (txt t).size by omega, txt_ext, txt_size, List.drop_zero, Nat.sub_zero]
 obtain ⟨z, rfl⟩ := h
 rw [List.take_left' rfl]
set_option maxRecDepth 8000 in
set_option maxHeartbeats 20000000 in
theorem ChaS.wire (h : ChaS w0 col w gW f x WL RL j) {i : Nat} {e : We} (hi : WL[i]? = some e) (hj : j ≤ 1100000) (most : Int) (hm : most ≤ 9223372036854775807) (hm0 : -9223372036854775808 ≤ most) :
 ∃ s : ByteArray, s.size ≤ 6000000 ∧ Calls Tryz.prog 46 #[ptr gW, .int .i64 (i : Nat), .int .i64 most] w fun r w' => r = .returned (.tuple #[.string s, .bool true]) ∧ (∀ b, Own w0.heap.size col 7 w b → w'.heap[b]? = w.heap[b]?) ∧ Cha w0 w' gW WL.length RL.length j := by
 obtain ⟨s, hF, hAt, HC0⟩ := h.wirePack hi hj most hm hm0
 have HC : Hid (_) := HC0
 obtain ⟨g1, cap1, a1, b1⟩ := hAt
 have hmy := (h.ws i e hi).may
 have hil : (i : Int) < (WL.length : Int) := by have := (List.getElem?_eq_some_iff.1 hi).1; omega
 have hco : e.k.count ≤ 2000000 := by
  obtain ⟨X, hX⟩ := (h.ws i e hi).rel
  have := hX.count
  omega
 clear HC0 h
 refine ⟨s, hF.short, ?_⟩
 have hsum : e.had.size + s.size ≤ 6000000 := by have := hF.small; rw [ByteArray.size_append] at this; exact this
 generalize hA : e.had ++ s = A at HC hF
 have HA : Hid (e.had ++ s = A) := hA
 clear hA
 generalize e.had = hd at HC HA hsum
 generalize e.k = k at HC hF hco
 generalize e.may = may at HC hF hmy
 generalize e.gv = gv at HC
 generalize e.gw = gw at HC b1
 generalize WL.length = nW at *
 generalize RL.length = nR at *
 unfold ptr at *
 generalize hP : (fun r w' => r = Ending.returned (.tuple #[.string s, .bool true]) ∧ (∀ b, Own w0.heap.size col 7 w b → w'.heap[b]? = w.heap[b]?) ∧ Cha w0 w' gW nW nR j) = P
 have HP : Hid (∀ w', (∀ b, Own w0.heap.size col 7 w b → w'.heap[b]? = w.heap[b]?) ∧ Cha w0 w' gW nW nR j → P (.returned (.tuple #[.string s, .bool true])) w') := fun w' q => by rw [← hP]; exact ⟨rfl, q⟩
 clear hP hi
 go_enter Tryz.func46, Tryz.ntmps46
 go_wp2_with fail
 refine Calls.mono HC.out ?_
 rintro r w1 ⟨rfl, g5, cap5, g2, cap2, g6, cap6, c5, d5, z5, HW0⟩
 have HW : Hid (_) := HW0
 clear HC HW0 a1 b1
 go_wp2_with fail
 go_region
 rw [HA.out]
 obtain ⟨⟨c2, d2, c5', d5', c6, d6⟩, HR0⟩ := HW.out _ rfl
 have HR : Hid (_) := HR0
 clear HR0 HW c5 d5 z5
 generalize (w1.setCell ⟨g5, i, none⟩ (.string A)).drew = W at c2 d2 c5' d5' c6 d6 HR ⊢
 have y1 : decide ((may : Int) < (A.size : Int)) = false := by have := hF.fit; rw [decide_eq_false_iff_not]; omega
 have y2 : decide (may < A.size) = false := by have := hF.fit; rw [decide_eq_false_iff_not]; omega
 have hAs : A.size ≤ 6000000 := hF.small
 by_cases hneg : most < 0
 ·
  have y3 : decide (0 ≤ most) = false := by rw [decide_eq_false_iff_not]; omega
  have y4 : decide (most < 0) = true := by rw [decide_eq_true_iff]; exact hneg
  have hs0 : s = ⟨#[]⟩ := by
   have := hF.neg hneg
   exact bytes_ext (List.eq_nil_of_length_eq_zero (by rw [← size_list]; exact this))
  have HTX : Hid ((runF A).text <+: k.text ∧ ((runF A).why = 0 ∨ (runF A).why = 2)) := ⟨hF.text, hF.why⟩
  subst hs0
  clear hF HA hsum
  go_wp2_with fail
  go_big_quiet (fail)
  go_wp2_with fail
  refine Calls.mono (HR.out nq) ?_
  rintro r w3 ⟨gx, vt, rfl, cv, ⟨x1, x2, x3, x4⟩, ⟨v1, v5, v7⟩, ⟨u6, u5⟩, HQ0⟩
  have HQ : Hid (_) := HQ0
  obtain ⟨sT, hTV, hTs, hVs⟩ := wire_text HTX.out.1
  obtain hwy := HTX.out.2
  have cv0 := cv 0
  have cv1 := cv 1
  have e0 : w3.drewN 0 = w3 := rfl
  have e1 : w3.drewN 1 = w3.drew := rfl
  rw [e0] at cv0
  rw [e1] at cv1
  clear HR HTX HQ0 cv c2 d2 c5' d5' c6 d6 e0 e1 x1 x4 v5 v7 u6 u5 y1 y2 hTs hVs hmy hco hAs
  generalize txt (runF A).text = T at *
  generalize txt k.text = V at *
  generalize (runF A).why = wy at *
  generalize (runF A).pos = ps at *
  generalize (runF A).fin = fi at *
  have z1 : decide ((V.size : Int) < (T.size : Int)) = false := by rw [decide_eq_false_iff_not]; omega
  have z2 : decide (V.size < T.size) = false := by rw [decide_eq_false_iff_not]; omega
  rcases hwy with rfl | rfl
  ·
   go_wp2_with fail
   exact HP.out _ (HQ.out 0)
  ·
   go_wp2_with fail
   exact HP.out _ (HQ.out 0)
 ·
  have y3 : decide (0 ≤ most) = true := by rw [decide_eq_true_iff]; omega
  have y4 : decide (most < 0) = false := by rw [decide_eq_false_iff_not]; omega
  have y5 : decide (most < (s.size : Int)) = false := by have := hF.pos (by omega); rw [decide_eq_false_iff_not]; omega
  have hpq : (s.size : Int) ≤ most := hF.pos (by omega)
  have HTX : Hid ((runF A).text <+: k.text ∧ ((runF A).why = 0 ∨ (runF A).why = 2)) := ⟨hF.text, hF.why⟩
  have HAL : Hid ((s.size : Int) < most → (runF A).text = k.text ∧ (runF A).fin = k.closed ∧ (0 < k.count ∨ A.size = 0) ∧ ((runF A).fin = true → ((runF A).pos + 7) / 8 = A.size)) := hF.all (by omega)
  have hss : s.size ≤ 6000000 := hF.short
  have hps := (runF_fit A).pos
  clear hF HA hsum
  go_wp2_with fail
  go_big_quiet (fail)
  go_wp2_with fail
  refine Calls.mono (HR.out nq) ?_
  rintro r w3 ⟨gx, vt, rfl, cv, ⟨x1, x2, x3, x4⟩, ⟨v1, v5, v7⟩, ⟨u6, u5⟩, HQ0⟩
  have HQ : Hid (_) := HQ0
  obtain ⟨sT, hTV, hTs, hVs⟩ := wire_text HTX.out.1
  obtain hwy := HTX.out.2
  have cv0 := cv 0
  have cv1 := cv 1
  have e0 : w3.drewN 0 = w3 := rfl
  have e1 : w3.drewN 1 = w3.drew := rfl
  rw [e0] at cv0
  rw [e1] at cv1
  clear HR HTX HQ0 cv c2 d2 c5' d5' c6 d6 e0 e1 y1 y2 hTs hVs hmy y3 y5
  have z1 : decide (((txt k.text).size : Int) < ((txt (runF A).text).size : Int)) = false := by rw [decide_eq_false_iff_not]; omega
  have z2 : decide ((txt k.text).size < (txt (runF A).text).size) = false := by rw [decide_eq_false_iff_not]; omega
  by_cases hsm : (s.size : Int) = most
  ·
   have z3 : ((s.size : Int) == most) = true := by rw [beq_iff_eq]; exact hsm
   clear HAL x1 x4 v5 v7 u6 u5 hco hAs hps
   generalize txt (runF A).text = T at *
   generalize txt k.text = V at *
   generalize (runF A).why = wy at *
   rcases hwy with rfl | rfl
   ·
    go_wp2_with fail
    exact HP.out _ (HQ.out 0)
   ·
    go_wp2_with fail
    exact HP.out _ (HQ.out 0)
  ·
   have z3 : ((s.size : Int) == most) = false := by rw [beq_eq_false_iff_ne]; exact hsm
   obtain ⟨q1, q2, q3, q4⟩ := HAL.out (by omega)
   have z4 : (runF A).fin = true → ((((runF A).pos : Int) + 7) / 8 == (A.size : Int)) = true := fun q => by have := q4 q; rw [beq_iff_eq]; omega
   clear HAL q4
   rw [q1] at cv0 cv1 sT z1 z2 hTV
   rw [← q2] at v5
   clear q1 q2
   generalize txt k.text = V at *
   generalize (runF A).why = wy at *
   generalize (runF A).pos = ps at *
   generalize (runF A).fin = fi at *
   have z5 : 0 < k.count ∧ decide (0 < (k.count : Int)) = true ∨ (decide (0 < (k.count : Int)) = false ∧ decide (0 < k.count) = false) ∧ A.toList.isEmpty = true := by
    by_cases q : 0 < k.count
    · exact Or.inl ⟨q, by rw [decide_eq_true_iff]; omega⟩
    · exact Or.inr ⟨⟨by rw [decide_eq_false_iff_not]; omega, by rw [decide_eq_false_iff_not]; omega⟩, by rw [← txt_of A, txt_empty, decide_eq_true_iff, ← size_list]; omega⟩
   have z9 : A.toList.isEmpty = true → (A.toList == []) = true ∧ (A.toList == (⟨#[]⟩ : ByteArray).toList) = true := fun q => by
    have e : A = ⟨#[]⟩ := by
     rw [← txt_of A, txt_empty, decide_eq_true_iff] at q
     exact bytes_ext (List.eq_nil_of_length_eq_zero q)
    have e2 : A.toList = [] := by rw [e, ByteArray.toList_eq]
    have e3 : (⟨#[]⟩ : ByteArray).toList = [] := by rw [ByteArray.toList_eq]
    rw [e2, e3]
    exact ⟨rfl, rfl⟩
   generalize k.count = kc at *
   have z6 : fi = false ∨ fi = true ∧ (((ps : Int) + 7) / 8 == (A.size : Int)) = true := by
    cases fi with
    | false => exact Or.inl rfl
    | true => exact Or.inr ⟨rfl, z4 rfl⟩
   clear z4 hss hpq hsm hneg hj
   rcases z6 with rfl | ⟨rfl, z6⟩
   ·
    rcases z5 with ⟨z7, z5⟩ | ⟨⟨z5, z12⟩, z8⟩
    ·
     rcases hwy with rfl | rfl
     ·
      go_wp2_with fail
      go_big_quiet (fail)
      go_wp2_with fail
      exact HP.out _ (HQ.out nq)
     ·
      go_wp2_with fail
      go_big_quiet (fail)
      go_wp2_with fail
      exact HP.out _ (HQ.out nq)
    ·
     obtain ⟨z10, z11⟩ := z9 z8
     rcases hwy with rfl | rfl
     ·
      go_wp2_with fail
      go_big_quiet (fail)
      go_wp2_with fail
      exact HP.out _ (HQ.out nq)
     ·
      go_wp2_with fail
      go_big_quiet (fail)
      go_wp2_with fail
      exact HP.out _ (HQ.out nq)
   ·
    rcases z5 with ⟨z7, z5⟩ | ⟨⟨z5, z12⟩, z8⟩
    ·
     rcases hwy with rfl | rfl
     ·
      go_wp2_with fail
      go_big_quiet (fail)
      go_wp2_with fail
      exact HP.out _ (HQ.out nq)
     ·
      go_wp2_with fail
      go_big_quiet (fail)
      go_wp2_with fail
      exact HP.out _ (HQ.out nq)
    ·
     obtain ⟨z10, z11⟩ := z9 z8
     rcases hwy with rfl | rfl
     ·
      go_wp2_with fail
      go_big_quiet (fail)
      go_wp2_with fail
      exact HP.out _ (HQ.out nq)
     ·
      go_wp2_with fail
      go_big_quiet (fail)
      go_wp2_with fail
      exact HP.out _ (HQ.out nq)
end
/- Channels: writes: Wire, Carry. -/
section
variable {w0 w : World} {col : Nat → Nat} {gW : Nat} {f : Nat → Value} {x : Nat → List Value} {WL : List We} {RL : List Re} {j : Nat}
theorem Cha.laterC {nw nr : Nat} (h : Cha w0 w gW nw nr j) : Cha w0 w gW nw nr (j + 1) := by
 obtain ⟨col, f, x, WL, RL, h, rfl, rfl⟩ := h
 exact h.laterC
theorem Cha.drewN {nw nr : Nat} (h : Cha w0 w gW nw nr j) (q : Nat) : Cha w0 (w.drewN q) gW nw nr j := by
 obtain ⟨col, f, x, WL, RL, h, rfl, rfl⟩ := h
 exact ⟨_, _, _, _, _, h.made ⟨rfl, rfl, rfl, Nat.le_refl _, fun _ _ => rfl⟩, rfl, rfl⟩
/-- The step's own cells behind wire. -/
theorem opW {B : Nat} {col2 : Nat → Nat} (kd a b wh : Int) (S : ByteArray) (hop : Own B col2 7 (w.alloc (.cells #[.int .i64 kd, .int .i64 a, .int .i64 b, .int .i64 wh, .string S] 28)) w.heap.size) (w1 : World)
 (hk : ∀ b', Own B col2 7 (w.alloc (.cells #[.int .i64 kd, .int .i64 a, .int .i64 b, .int .i64 wh, .string S] 28)) b' → w1.heap[b']? = (w.alloc (.cells #[.int .i64 kd, .int .i64 a, .int .i64 b, .int .i64 wh, .string S] 28)).heap[b']?) :
 w1.cell? ⟨w.heap.size, 0, none⟩ = some (.int .i64 kd) ∧ w1.cell? ⟨w.heap.size, 2, none⟩ = some (.int .i64 b) := by
 have d : ∀ n : Nat, w1.cell? ⟨w.heap.size, n, none⟩ = (w.alloc (.cells #[.int .i64 kd, .int .i64 a, .int .i64 b, .int .i64 wh, .string S] 28)).cell? ⟨w.heap.size, n, none⟩ := fun n => World.cell?_of_block (hk _ hop)
 have r := World.rowIs_alloc w #[.int .i64 kd, .int .i64 a, .int .i64 b, .int .i64 wh, .string S] 28 (fun i => if i = 0 then .int .i64 kd else if i = 1 then .int .i64 a else if i = 2 then .int .i64 b else if i = 3 then .int .i64 wh else .string S) (fun i hi => by match i, hi with | 0, _ => rfl | 1, _ => rfl | 2, _ => rfl | 3, _ => rfl | 4, _ => rfl)
 exact ⟨(d 0).trans (r.cell (i := 0) (show 0 < 5 by omega)), (d 2).trans (r.cell (i := 2) (show 2 < 5 by omega))⟩
set_option maxRecDepth 8000 in
set_option maxHeartbeats 400000 in
/-- Wire. -/
theorem ChaS.writes6 (h : ChaS w0 col w gW f x WL RL j) {i : Nat} (hi : i < WL.length) (a b wh : Int) (S : ByteArray) (ha1 : a ≤ 9223372036854775807) (ha0 : -9223372036854775808 ≤ a) (hj : j ≤ 1100000) :
 Calls Tryz.prog 24 #[ptr gW, .int .i64 (i : Nat), opV 6 a b wh S] w fun r w' => r = .returned (.bool true) ∧ Cha w0 w' gW WL.length RL.length (j + 1) := by
 unfold opV
 have hb : Below w.heap.size w (w.alloc (.cells #[.int .i64 6, .int .i64 a, .int .i64 b, .int .i64 wh, .string S] 28)) := (Below.refl _ _).alloc (Nat.le_refl _) _
 have hie := List.getElem?_eq_getElem hi
 obtain ⟨g1, cap1, a1, b1, a1', b1'⟩ := h.mem.atB (s := 1) (by omega) (by omega) (v := ptr WL[i].gw) (by rw [h.x1]; exact map_at hie) (n := WL.length) (by rw [h.x1, List.length_map]) hb
 obtain ⟨g2, cap2, a2, b2, a2', b2'⟩ := h.mem.atB (s := 2) (by omega) (by omega) (v := ptr WL[i].gv) (by rw [h.x2]; exact map_at hie) (n := WL.length) (by rw [h.x2, List.length_map]) hb
 obtain ⟨col2, S2, hop⟩ := h.op0 (.cells #[.int .i64 6, .int .i64 a, .int .i64 b, .int .i64 wh, .string S] 28)
 have HK : Hid (_) := opW 6 a b wh S hop
 obtain ⟨s, hs, HC0⟩ := S2.wire hie hj a ha1 ha0
 have HC : Hid (_) := HC0
 have hil : (i : Int) < (WL.length : Int) := by omega
 clear HC0 h S2 hie hop hb
 generalize WL[i].gw = gw at b1 b1'
 generalize WL[i].gv = gv at b2 b2'
 generalize WL.length = nW at *
 generalize RL.length = nR at *
 unfold ptr at *
 go_enter Tryz.func24, Tryz.ntmps24
 go_wp2_with fail
 refine Calls.mono HC.out ?_
 rintro r w1 ⟨rfl, hk1, hQ⟩
 obtain ⟨y0, y2⟩ := HK.out w1 hk1
 have HQ : Hid (_) := hQ
 clear HC HK hk1 hQ a1 b1 a1' b1' a2 b2 a2' b2'
 go_wp2_with fail
 go_ret
 exact ⟨rfl, Cha.laterC HQ.out⟩
set_option maxRecDepth 8000 in
set_option maxHeartbeats 400000 in
/-- Carry. -/
theorem ChaS.writes9 (h : ChaS w0 col w gW f x WL RL j) {i : Nat} (hi : i < WL.length) (a b wh : Int) (S : ByteArray) (ha1 : a ≤ 9223372036854775807) (ha0 : -9223372036854775808 ≤ a) (hb1 : b ≤ 9223372036854775807) (hb0 : -9223372036854775808 ≤ b) (hj : j ≤ 1100000) (h0 : 1 < w0.heap.size) (hord : OrdIn w0 1) :
 Calls Tryz.prog 24 #[ptr gW, .int .i64 (i : Nat), opV 9 a b wh S] w fun r w' => r = .returned (.bool true) ∧ Cha w0 w' gW WL.length RL.length (j + 1) := by
 unfold opV
 have hb : Below w.heap.size w (w.alloc (.cells #[.int .i64 9, .int .i64 a, .int .i64 b, .int .i64 wh, .string S] 28)) := (Below.refl _ _).alloc (Nat.le_refl _) _
 have hie := List.getElem?_eq_getElem hi
 obtain ⟨g1, cap1, a1, b1, a1', b1'⟩ := h.mem.atB (s := 1) (by omega) (by omega) (v := ptr WL[i].gw) (by rw [h.x1]; exact map_at hie) (n := WL.length) (by rw [h.x1, List.length_map]) hb
 obtain ⟨g2, cap2, a2, b2, a2', b2'⟩ := h.mem.atB (s := 2) (by omega) (by omega) (v := ptr WL[i].gv) (by rw [h.x2]; exact map_at hie) (n := WL.length) (by rw [h.x2, List.length_map]) hb
 obtain ⟨col2, S2, hop⟩ := h.op0 (.cells #[.int .i64 9, .int .i64 a, .int .i64 b, .int .i64 wh, .string S] 28)
 have HK : Hid (_) := opW 9 a b wh S hop
 obtain ⟨s, hs, HC0⟩ := S2.wire hie hj a ha1 ha0
 have HC : Hid (_) := HC0
 have hil : (i : Int) < (WL.length : Int) := by omega
 clear HC0 h S2 hie hop hb
 generalize WL[i].gw = gw at b1 b1'
 generalize WL[i].gv = gv at b2 b2'
 generalize WL.length = nW at *
 generalize RL.length = nR at *
 unfold ptr at *
 go_enter Tryz.func24, Tryz.ntmps24
 go_wp2_with fail
 refine Calls.mono HC.out ?_
 rintro r w1 ⟨rfl, hk1, hQ⟩
 obtain ⟨y0, y2⟩ := HK.out w1 hk1
 have hQ2 := hQ
 obtain ⟨col', f', x', WL', RL', h', e1, e2⟩ := hQ
 obtain ⟨ao, cap, y3⟩ := h'.mem.len (s := 3) (by omega) (by omega)
 have l3 : (x' 3).length = nR := by rw [h'.x3, List.length_map]; exact e2
 rw [l3] at y3
 have hmany : nR ≤ 1100003 := by have := h'.many; omega
 have HFE : Hid (∀ k : Nat, k < nR → Calls Tryz.prog 47 #[ptr gW, .int .i64 (k : Nat), .string s] w1.drew fun r w' => r = .returned (.bool true) ∧ Cha w0 w' gW nW nR (j + 1)) := fun k hk => by rw [← e1, ← e2]; exact (h'.made (w' := w1.drew) ⟨rfl, rfl, rfl, Nat.le_refl _, fun _ _ => rfl⟩).feeds (by omega) s hs (by omega) h0 hord
 have HQ : Hid (_) := hQ2
 clear HC HK hk1 hQ2 h' e1 e2 l3 a1 b1 a1' b1' a2 b2 a2' b2'
 unfold ptr at HFE
 by_cases hn : nR = 0
 ·
  subst hn
  go_wp2_with fail
  go_ret
  exact ⟨rfl, Cha.laterC HQ.out⟩
 ·
  have hn2 : 0 < nR := by omega
  have hn3 : ((nR : Int) == 0) = false := by rw [beq_eq_false_iff_ne]; omega
  have hn4 : (nR == 0) = false := by rw [beq_eq_false_iff_ne]; omega
  have HP : Hid (_) := pickw_any b nR w1.drew hb0 hb1 hn2 (by omega)
  go_wp2_with fail
  go_region_held3 (fun w' => w'.cell? ⟨w.heap.size, 2, none⟩ = some (.int .i64 b) ∧ w'.cell? ⟨gW, 4, none⟩ = some (.slice ao nR cap)) (exact ⟨y2, y3⟩)
   (first | (go_at_call 25; refine Calls.mono HP.out ?_; rintro r w2 ⟨k, hk, rfl, rfl⟩))
  have HFK : Hid (_) := HFE.out k hk
  clear HFE HP HQ y0 y2 y3
  go_wp2_with fail
  refine Calls.mono HFK.out ?_
  rintro r w3 ⟨rfl, hQ3⟩
  have HQ3 : Hid (_) := hQ3
  clear HFK hQ3
  go_wp2
  go_ret
  exact ⟨rfl, HQ3.out⟩
end
/- Channels: writes, reads, whatever the kind. -/
section
variable {w0 w : World} {col : Nat → Nat} {gW : Nat} {f : Nat → Value} {x : Nat → List Value} {WL : List We} {RL : List Re} {j : Nat}
/-- A call of a writer. -/
theorem ChaS.writesK (h : ChaS w0 col w gW f x WL RL j) {i : Nat} (hi : i < WL.length) (kd a b wh : Int) (S : ByteArray) (hk : kd = 9 ∨ (2 ≤ kd ∧ kd ≤ 6)) (ha1 : a ≤ 9223372036854775807) (ha0 : -9223372036854775808 ≤ a) (hb1 : b ≤ 9223372036854775807) (hb0 : -9223372036854775808 ≤ b) (hS : S.size ≤ 6000000) (hj : j ≤ 1100000) (h0 : 1 < w0.heap.size) (hord : OrdIn w0 1) :
 Calls Tryz.prog 24 #[ptr gW, .int .i64 (i : Nat), opV kd a b wh S] w fun r w' => r = .returned (.bool true) ∧ Cha w0 w' gW WL.length RL.length (j + 1) := by
 have q : kd = 2 ∨ kd = 3 ∨ kd = 4 ∨ kd = 5 ∨ kd = 6 ∨ kd = 9 := by omega
 rcases q with rfl | rfl | rfl | rfl | rfl | rfl
 · exact h.writes2 hi a b wh S hS
 · exact h.writes3 hi a b wh S (by omega)
 · exact h.writes4 hi a b wh S (by omega)
 · exact h.writes5 hi a b wh S (by omega)
 · exact h.writes6 hi a b wh S ha1 ha0 hj
 · exact h.writes9 hi a b wh S ha1 ha0 hb1 hb0 hj h0 hord
/-- A call of a reader. -/
theorem ChaS.readsK (h : ChaS w0 col w gW f x WL RL j) {i : Nat} (hi : i < RL.length) (kd a b wh : Int) (S : ByteArray) (hk : kd = 8 ∨ kd = 10 ∨ kd = 11) (hb1 : b ≤ 9223372036854775807) (hb0 : -9223372036854775808 ≤ b) (hS : S.size ≤ 6000000) (hj : j ≤ 1100000) (h0 : 1 < w0.heap.size) (hord : OrdIn w0 1) :
 Calls Tryz.prog 26 #[ptr gW, .int .i64 (i : Nat), opV kd a b wh S] w fun r w' => r = .returned (.bool true) ∧ Cha w0 w' gW WL.length RL.length (j + 1) := by
 rcases hk with rfl | rfl | rfl
 · exact h.reads8 hi a b wh S hS (by omega) h0 hord
 · exact h.reads10 hi a b wh S hb1 hb0 (by omega)
 · exact h.reads11 hi a b wh S (by omega)
/-- What Channels goes on with. -/
def ChaE (w0 : World) (gW j : Nat) (r : Ending) (w' : World) : Prop := r = .returned (.bool true) ∧ ∃ nW nR, Cha w0 w' gW nW nR j
/-- Of those there are. -/
theorem ChaS.picks (h : ChaS w0 col w gW f x WL RL j) : (∃ ao cap, w.cell? ⟨gW, 2, none⟩ = some (.slice ao WL.length cap)) ∧ (∃ ao cap, w.cell? ⟨gW, 4, none⟩ = some (.slice ao RL.length cap)) := by
 obtain ⟨ao, cap, e1⟩ := h.mem.len (s := 1) (by omega) (by omega)
 obtain ⟨ao3, cap3, e3⟩ := h.mem.len (s := 3) (by omega) (by omega)
 rw [h.x1, List.length_map] at e1
 rw [h.x3, List.length_map] at e3
 exact ⟨⟨ao, cap, e1⟩, ⟨ao3, cap3, e3⟩⟩
end
/- Channels: step. -/
section
variable {w0 w : World} {col : Nat → Nat} {gW : Nat} {f : Nat → Value} {x : Nat → List Value} {WL : List We} {RL : List Re} {j : Nat}
theorem ChaS.writersC (h : ChaS w0 col w gW f x WL RL j) (c : Int) (hj : j ≤ 2000000) : Calls Tryz.prog 21 #[ptr gW, .int .i64 c] w (ChaE w0 gW (j + 1)) := by
 by_cases q : c < 1 ∨ 8 < c
 · exact (h.writers_bad c q).mono fun r w' ⟨h1, h2⟩ => ⟨h1, _, _, h2⟩
 ·
  obtain ⟨N, rfl⟩ : ∃ N : Nat, c = (N : Int) := ⟨c.toNat, by omega⟩
  exact (h.writers_ok N (by omega) (by omega) hj).mono fun r w' ⟨h1, col', f', x', gx, gv, gu, h2⟩ => ⟨h1, _, _, _, _, _, _, _, h2, rfl, rfl⟩
theorem ChaS.readersC (h : ChaS w0 col w gW f x WL RL j) (c : Int) (hj : j ≤ 2000000) : Calls Tryz.prog 22 #[ptr gW, .int .i64 c] w (ChaE w0 gW (j + 1)) := by
 by_cases q : c < 1 ∨ 8 < c
 · exact (h.readers_bad c q).mono fun r w' ⟨h1, h2⟩ => ⟨h1, _, _, h2⟩
 ·
  obtain ⟨N, rfl⟩ : ∃ N : Nat, c = (N : Int) := ⟨c.toNat, by omega⟩
  exact (h.readers_ok N (by omega) (by omega) hj).mono fun r w' ⟨h1, h2⟩ => ⟨h1, _, _, h2⟩
set_option maxRecDepth 8000 in
set_option maxHeartbeats 400000 in
/-- One writer more, one reader more. -/
theorem ChaS.step1 (h : ChaS w0 col w gW f x WL RL j) (a b wh : Int) (S : ByteArray) (hj : j ≤ 2000000) :
 Calls Tryz.prog 7 #[ptr gW, opV 1 a b wh S] w (ChaE w0 gW (j + 1)) := by
 unfold opV
 have hb : Below w.heap.size w (w.alloc (.cells #[.int .i64 1, .int .i64 a, .int .i64 b, .int .i64 wh, .string S] 28)) := (Below.refl _ _).alloc (Nat.le_refl _) _
 have HW : Hid (_) := (h.made hb).writersC a hj
 clear h hb
 unfold ptr at *
 go_enter Tryz.func7, Tryz.ntmps7
 go_wp2_with fail
 refine Calls.mono HW.out ?_
 rintro r w1 ⟨rfl, hQ⟩
 have HQ : Hid (_) := hQ
 clear HW hQ
 go_wp2
 go_ret
 exact ⟨rfl, HQ.out⟩
set_option maxRecDepth 8000 in
set_option maxHeartbeats 400000 in
theorem ChaS.step7 (h : ChaS w0 col w gW f x WL RL j) (a b wh : Int) (S : ByteArray) (hj : j ≤ 2000000) :
 Calls Tryz.prog 7 #[ptr gW, opV 7 a b wh S] w (ChaE w0 gW (j + 1)) := by
 unfold opV
 have hb : Below w.heap.size w (w.alloc (.cells #[.int .i64 7, .int .i64 a, .int .i64 b, .int .i64 wh, .string S] 28)) := (Below.refl _ _).alloc (Nat.le_refl _) _
 have HW : Hid (_) := (h.made hb).readersC a hj
 clear h hb
 unfold ptr at *
 go_enter Tryz.func7, Tryz.ntmps7
 go_wp2_with fail
 refine Calls.mono HW.out ?_
 rintro r w1 ⟨rfl, hQ⟩
 have HQ : Hid (_) := hQ
 clear HW hQ
 go_wp2
 go_ret
 exact ⟨rfl, HQ.out⟩
set_option maxRecDepth 8000 in
set_option maxHeartbeats 400000 in
/-- Nothing. -/
theorem ChaS.stepN (h : ChaS w0 col w gW f x WL RL j) (kd a b wh : Int) (S : ByteArray) (hk : kd < 1 ∨ 11 < kd) :
 Calls Tryz.prog 7 #[ptr gW, opV kd a b wh S] w (ChaE w0 gW (j + 1)) := by
 unfold opV
 have hb : Below w.heap.size w (w.alloc (.cells #[.int .i64 kd, .int .i64 a, .int .i64 b, .int .i64 wh, .string S] 28)) := (Below.refl _ _).alloc (Nat.le_refl _) _
 have HQ : Hid (_) := (h.made hb).laterC
 have d : ∀ n : Int, 1 ≤ n → n ≤ 11 → (kd == n) = false := fun n h1 h2 => by rw [beq_eq_false_iff_ne]; omega
 have d1 := d 1 (by omega) (by omega)
 have d7 := d 7 (by omega) (by omega)
 have d8 := d 8 (by omega) (by omega)
 have d9 := d 9 (by omega) (by omega)
 have d10 := d 10 (by omega) (by omega)
 have d11 := d 11 (by omega) (by omega)
 clear h hb d
 unfold ptr at *
 by_cases q : 2 ≤ kd
 ·
  have y1 : decide (2 ≤ kd) = true := by rw [decide_eq_true_iff]; exact q
  have y2 : decide (kd ≤ 6) = false := by rw [decide_eq_false_iff_not]; omega
  go_enter Tryz.func7, Tryz.ntmps7
  go_wp2
  go_ret
  exact ⟨rfl, _, _, HQ.out⟩
 ·
  have y1 : decide (2 ≤ kd) = false := by rw [decide_eq_false_iff_not]; exact q
  go_enter Tryz.func7, Tryz.ntmps7
  go_wp2
  go_ret
  exact ⟨rfl, _, _, HQ.out⟩
end
end Go.Proofs.YtecddphahiadlaaGreatDoor
