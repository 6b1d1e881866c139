import Derived.Test.YtecddphahiadlaaGreatDoorCGKind2
import Derived.Test.YtecddphahiadlaaGreatDoorCFixL
/- The plan of kind 1: plain facts, and steps. -/
namespace Go.Proofs.YtecddphahiadlaaGreatDoor
open Go.RowKit
section
variable {P : Program} {ops : Array Oper} {Q : Exit → Act → World → Prop} {md : Region.Mode} {S : World → Prop}
theorem wpAnyH_one {i : Nat} {o : Oper} {fuel : Nat} {listed : Array Bool} {a : Act} {w : World} (hr : Region.ready md ops listed = [i]) (ho : ops[i]? = some o)
 (h : ∀ K' : Act → World → Prop, (∀ a w, (S w ∧ wpAnyH P md ops Q S fuel (listed.setIfInBounds i true) a w) → K' a w) → if Region.wanted o (yielded ops a.tmps) = true then Oper.wp P o a w K' Q else K' (a.put o.dst undef) w) :
 wpAnyH P md ops Q S (fuel + 1) listed a w :=
 wpAnyH_all hr (by simp) fun j hj => by
  obtain rfl : j = i := by simpa using hj
  exact wpOp_step ho h
theorem step_store_mid {o : Oper} {a : Act} {w : World} {K : Act → World → Prop} {E : Prop} (hgd : o.guard = none) (ty : TypeId) (x y : Operand) (ho : o.op = .store ty x y)
 (b off : Nat) (cells : Array Value) (hx : a.eval x = .pointer (some ⟨b, off, none⟩)) (hy : a.eval y = .agg cells)
 (ht : w.there b off cells.size) (hi : (P.info? ty).map (·.size) = some cells.size) (h1 : cells.all (·.oneCell') = true)
 (h : K (a.put o.dst undef) (w.setCells b off cells.toList)) : if Region.wanted o (yielded ops a.tmps) = true then Oper.wp P o a w K Q else E := by
 have hw : Region.wanted o (yielded ops a.tmps) = true := by simp [Region.wanted, hgd]
 rw [if_pos hw]
 exact wp_store_mid ty x y ho b off cells hx hy ht hi h1 h
end
theorem Rd.setFx {B : Nat} {w : World} {gx : Nat} {s : ByteArray} {σ : St} {vt : Value} {fx : Ex} (h : Rd B w gx s σ vt fx) (v : Value) : Rd B (w.setCell ⟨gx, 9, none⟩ v) gx s σ vt { fx with fx := v } :=
 h.setC 9 v rfl rfl (p := σ.pos) (fx2 := { fx with fx := v }) (fun i => by
  unfold rdCell
  by_cases e : i = 9
  · subst e; rfl
  · simp only [if_neg e])
def FixOk (S : Nat → Prop) (w : World) (gx : Nat) (vt fx : Value) : Prop := fx = .pointer none ∨ ∃ gp, fx = .pointer (some ⟨gp, 0, none⟩) ∧ PlanOk S w gx vt gp fixZ 288 fivZ 32
theorem FixOk.kp {S : Nat → Prop} {w w' : World} {gx : Nat} {vt vt' fx : Value} (h : FixOk S w gx vt fx) (k : Kp w w' gx vt) (f : ∀ g, vt'.ownBlock = some g → vt.ownBlock = some g ∨ w.heap.size ≤ g) : FixOk S w' gx vt' fx := by
 rcases h with h | ⟨gp, h, hp⟩
 · exact Or.inl h
 · exact Or.inr ⟨gp, h, hp.kp k f⟩
theorem FixOk.mono {S S' : Nat → Prop} {w : World} {gx : Nat} {vt fx : Value} (h : FixOk S w gx vt fx) (hS : ∀ b, S b → S' b) : FixOk S' w gx vt fx := by
 rcases h with h | ⟨gp, h, hp⟩
 · exact Or.inl h
 · exact Or.inr ⟨gp, h, hp.mono hS⟩
def zeros34 : Array Value := #[.int .i64 0, .int .i64 0, .int .i64 0, .int .i64 0, .int .i64 0, .int .i64 0, .int .i64 0, .int .i64 0, .int .i64 0, .int .i64 0, .int .i64 0, .int .i64 0, .int .i64 0, .int .i64 0, .int .i64 0, .int .i64 0, .slice none 0 0, .int .i64 0, .int .i64 0, .int .i64 0, .int .i64 0, .int .i64 0, .int .i64 0, .int .i64 0, .int .i64 0, .int .i64 0, .int .i64 0, .int .i64 0, .int .i64 0, .int .i64 0, .int .i64 0, .int .i64 0, .int .i64 0, .slice none 0 0]
theorem there_alloc34 (w : World) (t : TypeId) : (w.alloc (.cells zeros34 t)).there w.heap.size 0 17 ∧ (w.alloc (.cells zeros34 t)).there w.heap.size 17 17 := by
 have hb := heap_alloc_last w (.cells zeros34 t)
 refine ⟨fun j hj => ⟨?_, ?_⟩, fun j hj => ⟨?_, ?_⟩⟩
 · rw [cell_of_row _ _ _ _ _ _ hb, Array.getElem?_eq_getElem (by show 0 + j < 34; omega)]; rfl
 · simp only [World.frozen?, hb]; simp
 · rw [cell_of_row _ _ _ _ _ _ hb, Array.getElem?_eq_getElem (by show 17 + j < 34; omega)]; rfl
 · simp only [World.frozen?, hb]; simp
theorem there_block {w w' : World} {b o n : Nat} (h : w.there b o n) (e : w'.heap[b]? = w.heap[b]?) : w'.there b o n := by
 intro j hj
 obtain ⟨h1, h2⟩ := h j hj
 simp only [World.cell?, World.frozen?] at h1 h2 ⊢
 rw [e]; exact ⟨h1, h2⟩
/- The program's kind1, walked. -/
/-- What kind1 answers. -/
def K1Post (S : Nat → Prop) (B : Nat) (w : World) (gx : Nat) (s : ByteArray) (σ : St) (vt : Value) (fx : Ex) (e : Ending) (w' : World) : Prop :=
 ∃ gp, e = .returned (.pointer (some ⟨gp, 0, none⟩)) ∧ Rd B w' gx s σ vt { fx with fx := .pointer (some ⟨gp, 0, none⟩) } ∧ Kp w w' gx vt ∧ PlanOk (SN S w.heap.size) w' gx vt gp fixZ 288 fivZ 32
theorem Rd.setCells {B : Nat} {w : World} {gx : Nat} {s : ByteArray} {σ : St} {vt : Value} {fx : Ex} (h : Rd B w gx s σ vt fx) {g : Nat} (hg : gx ≠ g) (hv : vt.ownBlock ≠ some g) (o : Nat) (vs : List Value) : Rd B (w.setCells g o vs) gx s σ vt fx := by
 induction vs generalizing o w with
 | nil => exact h
 | cons v r ih => exact ih (h.setOther hg hv o v) (o + 1)
theorem Kp.setCells {w w' : World} {gx : Nat} {vt : Value} (h : Kp w w' gx vt) {g : Nat} (hg : w.heap.size ≤ g) (o : Nat) (vs : List Value) : Kp w (w'.setCells g o vs) gx vt := by
 induction vs generalizing o w' with
 | nil => exact h
 | cons v r ih => exact ih (h.setNew hg o v) (o + 1)
theorem heap_setCells (w : World) (g o : Nat) (vs : List Value) (b : Nat) (hb : b ≠ g) : (w.setCells g o vs).heap[b]? = w.heap[b]? := by
 induction vs generalizing o w with
 | nil => rfl
 | cons v r ih => exact (ih _ (o + 1)).trans (Below.heap_setCell _ _ _ _ hb)
theorem size_setCells (w : World) (g o : Nat) (vs : List Value) : (w.setCells g o vs).heap.size = w.heap.size := by
 induction vs generalizing o w with
 | nil => rfl
 | cons v r ih => exact (ih _ (o + 1)).trans (by simp [World.setCell])
theorem cell_block {w w' : World} {a : Addr} {v : Value} (h : w.cell? a = some v) (e : w'.heap[a.block]? = w.heap[a.block]?) : w'.cell? a = some v := by
 simp only [World.cell?] at h ⊢
 rw [e]; exact h
set_option maxRecDepth 4000 in
set_option maxHeartbeats 2000000 in
theorem kind1_any (S : Nat → Prop) (B gx : Nat) (s : ByteArray) (σ : St) (vt : Value) (fx : Ex) (w : World) (h : Rd B w gx s σ vt fx) (hfx : FixOk S w gx vt fx.fx) :
 Calls Tryz.prog 143 #[.pointer (some ⟨gx, 0, none⟩)] w (K1Post S B w gx s σ vt fx) := by
 have c4 := h.c4
 rcases hfx with hfx0 | ⟨gp, hfx1, hp⟩
 ·
  rw [hfx0] at c4
  have hgl := h.row.lt
  have hvn : ∀ g, vt.ownBlock = some g → g < w.heap.size := fun g e => (h.own.lt g e).2
  have ff4 := h.fz 9
  have e0 : (w.setCell ⟨gx, 9, none⟩ (.pointer (some ⟨w.heap.size, 0, none⟩))).heap.size = w.heap.size := by simp [World.setCell]
  have h1 := (h.setFx (.pointer (some ⟨w.heap.size, 0, none⟩))).alloc (.cells zeros34 187)
  have K1 : Kp w ((w.setCell ⟨gx, 9, none⟩ (.pointer (some ⟨w.heap.size, 0, none⟩))).alloc (.cells zeros34 187)) gx vt := ((Kp.refl w gx vt).set 9 _).trans (Kp.alloc _ _ gx vt)
  have hth := there_alloc34 (w.setCell ⟨gx, 9, none⟩ (.pointer (some ⟨w.heap.size, 0, none⟩))) 187
  rw [e0] at hth
  have hsz1 : ((w.setCell ⟨gx, 9, none⟩ (.pointer (some ⟨w.heap.size, 0, none⟩))).alloc (.cells zeros34 187)).heap.size = w.heap.size + 1 := by simp [World.setCell]
  go_enter Tryz.func143, Tryz.ntmps143
  go_upto_region 4 with fail
  obtain ⟨w1, hw1⟩ : ∃ w1, w1 = ((w.setCell ⟨gx, 9, none⟩ (.pointer (some ⟨w.heap.size, 0, none⟩))).alloc (.cells zeros34 187)) := ⟨_, rfl⟩
  obtain ⟨gp, hgp⟩ : ∃ gp, gp = w.heap.size := ⟨_, rfl⟩
  change Code.wp _ _ _ _ ((w.setCell ⟨gx, 9, none⟩ (.pointer (some ⟨w.heap.size, 0, none⟩))).alloc (.cells zeros34 187))
  rw [← hw1] at h1 K1 hth hsz1 ⊢
  rw [← hgp] at h1 hth hsz1 ⊢
  have hgpx : gp ≠ gx := by omega
  have hgpv : vt.ownBlock ≠ some gp := fun e => by have := hvn _ e; omega
  have hgp1 : gp < w1.heap.size := by omega
  have hgpw : w.heap.size ≤ gp := by omega
  obtain ⟨th0, th1⟩ := hth
  have hgx1 : gx < w1.heap.size := by omega
  have hw1w : w.heap.size ≤ w1.heap.size := by omega
  clear hw1 hgp c4 h ff4 hsz1 e0
  have c4 := h1.c4
  have S0 : w1.drew.cell? ⟨gx, 9, none⟩ = some (.pointer (some ⟨gp, 0, none⟩)) := c4
  refine wp_region_held (S := fun w => w.cell? ⟨gx, 9, none⟩ = some (.pointer (some ⟨gp, 0, none⟩))) (by kernel_rfl) ?_
  change wpAnyH _ _ _ _ _ _ _ _ (World.drew _)
  refine wpAnyH_take (i := 0) (v := .pointer (some ⟨gx, 0, none⟩)) rfl (by kernel_rfl) (by kernel_rfl) (by kernel_rfl) (fun _ _ _ h => h) (Or.inl ⟨by rfl, ?_⟩) S0 ?_
  ·
   intro w hw
   have hw' : w.cell? ⟨gx, 9, none⟩ = some (.pointer (some ⟨gp, 0, none⟩)) := hw
   go_simp
  refine wpAnyH_take (i := 1) (v := .pointer (some ⟨gx, 0, none⟩)) rfl (by kernel_rfl) (by kernel_rfl) (by kernel_rfl) (fun _ _ _ h => h) (Or.inl ⟨by rfl, ?_⟩) S0 ?_
  ·
   intro w hw
   have hw' : w.cell? ⟨gx, 9, none⟩ = some (.pointer (some ⟨gp, 0, none⟩)) := hw
   go_simp
  refine wpAnyH_take (i := 2) (v := .pointer (some ⟨gx, 9, none⟩)) rfl (by kernel_rfl) (by kernel_rfl) (by kernel_rfl) (fun _ _ _ h => h) (Or.inl ⟨by rfl, ?_⟩) S0 ?_
  ·
   intro w hw
   have hw' : w.cell? ⟨gx, 9, none⟩ = some (.pointer (some ⟨gp, 0, none⟩)) := hw
   go_simp
  refine wpAnyH_take (i := 3) (v := .pointer (some ⟨gp, 0, none⟩)) rfl (by kernel_rfl) (by kernel_rfl) (by kernel_rfl) (fun _ _ _ h => h) (Or.inl ⟨by rfl, ?_⟩) S0 ?_
  ·
   intro w hw
   have hw' : w.cell? ⟨gx, 9, none⟩ = some (.pointer (some ⟨gp, 0, none⟩)) := hw
   go_simp
  have B1 : Below w1.heap.size w1 w1.drew := (Below.refl _ _).drew
  refine wpAnyH_one (i := 4) (by kernel_rfl) rfl (fun K hK => ?_)
  go_simp
  go_wp2_with (go_at_call 73; refine (fixedSymbols_any _).mono ?_; rintro e w7 ⟨gq, cq, rfl, oq, b7⟩)
  have B7 : Below w1.heap.size w1 w7 := B1.trans (b7.mono B1.size)
  have S7 : w7.cell? ⟨gx, 9, none⟩ = some (.pointer (some ⟨gp, 0, none⟩)) := (B7.cell (p := ⟨gx, 9, none⟩) hgx1).trans c4
  first | (refine hK _ _ ⟨S7, ?_⟩; clear hK K) | (refine ⟨S7, ?_⟩)
  refine wpAnyH_one (i := 5) (by kernel_rfl) rfl (fun K hK => ?_)
  go_simp
  go_wp2_with (go_at_call 147; refine (fitting_any gq 0 288 cq fixZ _ oq.ints (by omega)).mono ?_; rintro e w8 ⟨A1, rfl, ⟨hA1, hA2⟩, hA3, b8⟩)
  have B8 : Below w1.heap.size w1 w8 := B7.trans (b8.mono B7.size)
  have S8 : w8.cell? ⟨gx, 9, none⟩ = some (.pointer (some ⟨gp, 0, none⟩)) := (B8.cell (p := ⟨gx, 9, none⟩) hgx1).trans c4
  obtain ⟨gA, syA, hAe, hgA, hrowA, hsyA⟩ := hA3 fix_fit
  have hgAw : w1.heap.size ≤ gA := Nat.le_trans B7.size hgA
  rw [fix_fit]
  have HAe : Hid (A1 = setL fixZ 288 gA) := hAe
  have setA8 : SetIn w8 fixZ 288 gA syA := ⟨fit_tidy fix_fit, by omega, hrowA, hsyA⟩
  clear hAe hA3 hrowA
  first | (refine hK _ _ ⟨S8, ?_⟩; clear hK K) | (refine ⟨S8, ?_⟩)
  refine wpAnyH_take (i := 6) (v := .tuple #[.agg A1, .bool true]) rfl (by kernel_rfl) (by kernel_rfl) (by kernel_rfl) (fun _ _ _ h => h) (Or.inl ⟨by rfl, ?_⟩) S8 ?_
  ·
   intro w hw
   have hw' : w.cell? ⟨gx, 9, none⟩ = some (.pointer (some ⟨gp, 0, none⟩)) := hw
   go_simp
  refine wpAnyH_take (i := 7) (v := .agg A1) rfl (by kernel_rfl) (by kernel_rfl) (by kernel_rfl) (fun _ _ _ h => h) (Or.inl ⟨by rfl, ?_⟩) S8 ?_
  ·
   intro w hw
   have hw' : w.cell? ⟨gx, 9, none⟩ = some (.pointer (some ⟨gp, 0, none⟩)) := hw
   go_simp
  refine wpAnyH_take (i := 8) (v := .bool true) rfl (by kernel_rfl) (by kernel_rfl) (by kernel_rfl) (fun _ _ _ h => h) (Or.inl ⟨by rfl, ?_⟩) S8 ?_
  ·
   intro w hw
   have hw' : w.cell? ⟨gx, 9, none⟩ = some (.pointer (some ⟨gp, 0, none⟩)) := hw
   go_simp
  refine wpAnyH_take (i := 9) (v := .pointer (some ⟨gp, 0, none⟩)) rfl (by kernel_rfl) (by kernel_rfl) (by kernel_rfl) (fun _ _ _ h => h) (Or.inl ⟨by rfl, ?_⟩) S8 ?_
  ·
   intro w hw
   have hw' : w.cell? ⟨gx, 9, none⟩ = some (.pointer (some ⟨gp, 0, none⟩)) := hw
   go_simp
  refine wpAnyH_take (i := 10) (v := .pointer (some ⟨gp, 0, none⟩)) rfl (by kernel_rfl) (by kernel_rfl) (by kernel_rfl) (fun _ _ _ h => h) (Or.inl ⟨by rfl, ?_⟩) S8 ?_
  ·
   intro w hw
   have hw' : w.cell? ⟨gx, 9, none⟩ = some (.pointer (some ⟨gp, 0, none⟩)) := hw
   go_simp
  refine wpAnyH_one (i := 11) (by kernel_rfl) rfl (fun K hK => ?_)
  have hi1 : (Tryz.prog.info? 185).map (·.size) = some A1.size := by rw [hA1]; exact Tryz.size185
  have th0' : w8.there gp 0 A1.size := by rw [hA1]; exact there_block th0 (B8.block gp hgp1)
  with_reducible refine step_store_mid (P := Tryz.prog) (w := w8) ?a1 185 (.tmp 27) (.tmp 24) ?a2 gp 0 A1 ?a3 ?a4 th0' hi1 hA2 ?a5
  case a1 => rfl
  case a2 => rfl
  case a3 => simp [Act.eval, Act.put]
  case a4 => simp [Act.eval, Act.put]
  have S9 : (w8.setCells gp 0 A1.toList).cell? ⟨gx, 9, none⟩ = some (.pointer (some ⟨gp, 0, none⟩)) := cell_block S8 (heap_setCells _ _ _ _ _ (fun e => hgpx e.symm))
  go_simp
  first | (refine hK _ _ ⟨S9, ?_⟩; clear hK K) | (refine ⟨S9, ?_⟩)
  refine wpAnyH_done (by kernel_rfl) ?_ _
  have k8 := Kp.below B8 gx vt
  have h9 := (h1.kp' k8 B8).setCells (fun e => hgpx e.symm) hgpv 0 A1.toList
  have K9 := (K1.trans k8).setCells hgpw 0 A1.toList
  have setA9 : SetIn (w8.setCells gp 0 A1.toList) fixZ 288 gA syA := ⟨setA8.tidy, setA8.many, setA8.row.of_block (heap_setCells _ _ _ _ _ (by omega)), setA8.ok⟩
  have rA9 : (w8.setCells gp 0 A1.toList).rangeAt gp 0 A1.toList := World.rangeAt_setCells_same _ _ _ _ (by rw [Array.length_toList]; exact th0')
  have th9 : (w8.setCells gp 0 A1.toList).there gp 17 17 := World.there_setCells (there_block th1 (B8.block gp hgp1)) _ _ _
  have hs9 : (w8.setCells gp 0 A1.toList).heap.size = w8.heap.size := size_setCells _ _ _ _
  have hs8 := B8.size
  have hgA9 : gA < w8.heap.size := by have := setA8.row.lt; omega
  obtain ⟨v1, hv1⟩ : ∃ v1, v1 = w8.setCells gp 0 A1.toList := ⟨_, rfl⟩
  rw [← hv1] at h9 K9 setA9 rA9 th9 hs9 ⊢
  clear hv1 S8 S9 th0 th0' th1 setA8 oq b7 b8 B7 B8 B1 S7 S0 k8 h1 K1 c4
  have h1 := h9
  have K1 := K9
  have hgv1 : gp < v1.heap.size := by omega
  have hgxv : gx < v1.heap.size := by omega
  clear h9 K9
  go_upto_region 5 with fail
  have c4 := h1.c4
  have S0 : v1.drew.cell? ⟨gx, 9, none⟩ = some (.pointer (some ⟨gp, 0, none⟩)) := c4
  refine wp_region_held (S := fun w => w.cell? ⟨gx, 9, none⟩ = some (.pointer (some ⟨gp, 0, none⟩))) (by kernel_rfl) ?_
  change wpAnyH _ _ _ _ _ _ _ _ (World.drew _)
  refine wpAnyH_take (i := 0) (v := .pointer (some ⟨gx, 0, none⟩)) rfl (by kernel_rfl) (by kernel_rfl) (by kernel_rfl) (fun _ _ _ h => h) (Or.inl ⟨by rfl, ?_⟩) S0 ?_
  ·
   intro w hw
   have hw' : w.cell? ⟨gx, 9, none⟩ = some (.pointer (some ⟨gp, 0, none⟩)) := hw
   go_simp
  refine wpAnyH_take (i := 1) (v := .pointer (some ⟨gx, 0, none⟩)) rfl (by kernel_rfl) (by kernel_rfl) (by kernel_rfl) (fun _ _ _ h => h) (Or.inl ⟨by rfl, ?_⟩) S0 ?_
  ·
   intro w hw
   have hw' : w.cell? ⟨gx, 9, none⟩ = some (.pointer (some ⟨gp, 0, none⟩)) := hw
   go_simp
  refine wpAnyH_take (i := 2) (v := .pointer (some ⟨gx, 9, none⟩)) rfl (by kernel_rfl) (by kernel_rfl) (by kernel_rfl) (fun _ _ _ h => h) (Or.inl ⟨by rfl, ?_⟩) S0 ?_
  ·
   intro w hw
   have hw' : w.cell? ⟨gx, 9, none⟩ = some (.pointer (some ⟨gp, 0, none⟩)) := hw
   go_simp
  refine wpAnyH_take (i := 3) (v := .pointer (some ⟨gp, 0, none⟩)) rfl (by kernel_rfl) (by kernel_rfl) (by kernel_rfl) (fun _ _ _ h => h) (Or.inl ⟨by rfl, ?_⟩) S0 ?_
  ·
   intro w hw
   have hw' : w.cell? ⟨gx, 9, none⟩ = some (.pointer (some ⟨gp, 0, none⟩)) := hw
   go_simp
  have B1 : Below v1.heap.size v1 v1.drew := (Below.refl _ _).drew
  refine wpAnyH_one (i := 4) (by kernel_rfl) rfl (fun K hK => ?_)
  go_simp
  go_wp2_with (go_at_call 74; refine (fixedDistances_any _).mono ?_; rintro e v2 ⟨ge, ce, rfl, oe, b2⟩)
  have B2 : Below v1.heap.size v1 v2 := B1.trans (b2.mono B1.size)
  have S2 : v2.cell? ⟨gx, 9, none⟩ = some (.pointer (some ⟨gp, 0, none⟩)) := (B2.cell (p := ⟨gx, 9, none⟩) hgxv).trans c4
  first | (refine hK _ _ ⟨S2, ?_⟩; clear hK K) | (refine ⟨S2, ?_⟩)
  refine wpAnyH_one (i := 5) (by kernel_rfl) rfl (fun K hK => ?_)
  go_simp
  go_wp2_with (go_at_call 147; refine (fitting_any ge 0 32 ce fivZ _ oe.ints (by omega)).mono ?_; rintro e v3 ⟨A2, rfl, ⟨hB1, hB2⟩, hB3, b3⟩)
  have B3 : Below v1.heap.size v1 v3 := B2.trans (b3.mono B2.size)
  have S3 : v3.cell? ⟨gx, 9, none⟩ = some (.pointer (some ⟨gp, 0, none⟩)) := (B3.cell (p := ⟨gx, 9, none⟩) hgxv).trans c4
  obtain ⟨gB, syB, hBe, hgB, hrowB, hsyB⟩ := hB3 fiv_fit
  have hgBw : v1.heap.size ≤ gB := Nat.le_trans B2.size hgB
  rw [fiv_fit]
  have HBe : Hid (A2 = setL fivZ 32 gB) := hBe
  have setB3 : SetIn v3 fivZ 32 gB syB := ⟨fit_tidy fiv_fit, by omega, hrowB, hsyB⟩
  clear hBe hB3 hrowB
  first | (refine hK _ _ ⟨S3, ?_⟩; clear hK K) | (refine ⟨S3, ?_⟩)
  refine wpAnyH_take (i := 6) (v := .tuple #[.agg A2, .bool true]) rfl (by kernel_rfl) (by kernel_rfl) (by kernel_rfl) (fun _ _ _ h => h) (Or.inl ⟨by rfl, ?_⟩) S3 ?_
  ·
   intro w hw
   have hw' : w.cell? ⟨gx, 9, none⟩ = some (.pointer (some ⟨gp, 0, none⟩)) := hw
   go_simp
  refine wpAnyH_take (i := 7) (v := .agg A2) rfl (by kernel_rfl) (by kernel_rfl) (by kernel_rfl) (fun _ _ _ h => h) (Or.inl ⟨by rfl, ?_⟩) S3 ?_
  ·
   intro w hw
   have hw' : w.cell? ⟨gx, 9, none⟩ = some (.pointer (some ⟨gp, 0, none⟩)) := hw
   go_simp
  refine wpAnyH_take (i := 8) (v := .bool true) rfl (by kernel_rfl) (by kernel_rfl) (by kernel_rfl) (fun _ _ _ h => h) (Or.inl ⟨by rfl, ?_⟩) S3 ?_
  ·
   intro w hw
   have hw' : w.cell? ⟨gx, 9, none⟩ = some (.pointer (some ⟨gp, 0, none⟩)) := hw
   go_simp
  refine wpAnyH_take (i := 9) (v := .pointer (some ⟨gp, 0, none⟩)) rfl (by kernel_rfl) (by kernel_rfl) (by kernel_rfl) (fun _ _ _ h => h) (Or.inl ⟨by rfl, ?_⟩) S3 ?_
  ·
   intro w hw
   have hw' : w.cell? ⟨gx, 9, none⟩ = some (.pointer (some ⟨gp, 0, none⟩)) := hw
   go_simp
  refine wpAnyH_take (i := 10) (v := .pointer (some ⟨gp, 17, none⟩)) rfl (by kernel_rfl) (by kernel_rfl) (by kernel_rfl) (fun _ _ _ h => h) (Or.inl ⟨by rfl, ?_⟩) S3 ?_
  ·
   intro w hw
   have hw' : w.cell? ⟨gx, 9, none⟩ = some (.pointer (some ⟨gp, 0, none⟩)) := hw
   go_simp
  refine wpAnyH_one (i := 11) (by kernel_rfl) rfl (fun K hK => ?_)
  have hi2 : (Tryz.prog.info? 185).map (·.size) = some A2.size := by rw [hB1]; exact Tryz.size185
  have th3 : v3.there gp 17 A2.size := by rw [hB1]; exact there_block th9 (B3.block gp hgv1)
  with_reducible refine step_store_mid (P := Tryz.prog) (w := v3) ?c1 185 (.tmp 38) (.tmp 35) ?c2 gp 17 A2 ?c3 ?c4 th3 hi2 hB2 ?c5
  case c1 => rfl
  case c2 => rfl
  case c3 => simp [Act.eval, Act.put]
  case c4 => simp [Act.eval, Act.put]
  have S4 : (v3.setCells gp 17 A2.toList).cell? ⟨gx, 9, none⟩ = some (.pointer (some ⟨gp, 0, none⟩)) := cell_block S3 (heap_setCells _ _ _ _ _ (fun e => hgpx e.symm))
  go_simp
  first | (refine hK _ _ ⟨S4, ?_⟩; clear hK K) | (refine ⟨S4, ?_⟩)
  refine wpAnyH_done (by kernel_rfl) ?_ _
  have k3 := Kp.below B3 gx vt
  have h4 := (h1.kp' k3 B3).setCells (fun e => hgpx e.symm) hgpv 17 A2.toList
  have K4 := (K1.trans k3).setCells hgpw 17 A2.toList
  have hs4 : (v3.setCells gp 17 A2.toList).heap.size = v3.heap.size := size_setCells _ _ _ _
  have hs3 := B3.size
  have nvA : vt.ownBlock ≠ some gA := fun e => by have := hvn _ e; omega
  have nvB : vt.ownBlock ≠ some gB := fun e => by have := hvn _ e; omega
  have hPl : PlanOk (SN S w.heap.size) (v3.setCells gp 17 A2.toList) gx vt gp fixZ 288 fivZ 32 := by
   refine ⟨gA, syA, gB, syB, ?_, Or.inr hgpw, Or.inr (by omega), Or.inr (by omega)⟩
   have rA3 := rangeAt_block rA9 (B3.block gp hgv1)
   refine ⟨by rw [← HAe.out]; exact World.rangeAt_setCells_apart rA3 _ _ _ (by right; left; rw [Array.length_toList, hA1]; omega), by rw [← HBe.out]; exact World.rangeAt_setCells_same _ _ _ _ (by rw [Array.length_toList]; exact th3), ⟨setA9.tidy, setA9.many, (setA9.row.of_block (B3.block gA setA9.row.lt)).of_block (heap_setCells _ _ _ _ _ (by omega)), setA9.ok⟩, ⟨setB3.tidy, setB3.many, setB3.row.of_block (heap_setCells _ _ _ _ _ (by omega)), setB3.ok⟩, ⟨by omega, hgpx, hgpv⟩, ⟨by have := setA9.row.lt; omega, by omega, nvA⟩, ⟨by have := setB3.row.lt; omega, by omega, nvB⟩⟩
  have P : K1Post S B w gx s σ vt fx (.returned (.pointer (some ⟨gp, 0, none⟩))) (v3.setCells gp 17 A2.toList) := ⟨gp, rfl, h4, K4, hPl⟩
  have c4' := h4.c4
  generalize v3.setCells gp 17 A2.toList = v4 at c4' P ⊢
  clear h4 K4 hPl setA9 setB3 rA9 th9 th3 S3 S4 S2 S0 B1 B2 B3 oe b2 b3 k3 h1 K1 c4
  go_wp2
  go_ret
  exact P
 ·
  rw [hfx1] at c4
  have hE : ({ fx with fx := .pointer (some ⟨gp, 0, none⟩) } : Ex) = fx := by rw [← hfx1]
  have HR : Hid (Rd B w gx s σ vt { fx with fx := .pointer (some ⟨gp, 0, none⟩) }) := by show Rd _ _ _ _ _ _ _; rw [hE]; exact h
  clear hE hfx1 h
  go_enter Tryz.func143, Tryz.ntmps143
  go_wp2
  go_ret
  exact ⟨gp, rfl, HR.out, Kp.refl _ _ _, hp.mono (fun _ h => Or.inl h)⟩
end Go.Proofs.YtecddphahiadlaaGreatDoor
