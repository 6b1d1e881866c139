/- Memory while the document's lengths are read; its order. -/
import Derived.Test.YtnfghnolklhppaaLensF
import Derived.Test.YtnfghnolklhppaaRef2
namespace Go.Proofs.Ytnfghnolklhppaa
open Go.RowKit

theorem own_of_block {w w' : World} {B : Nat} {e : TypeId} {v : Value} {n : Nat} {xs : List Value} (h : w.ownsRow B e 1 v n xs) (hb : ∀ g, v.ownBlock = some g → w'.heap[g]? = w.heap[g]?) : w'.ownsRow B e 1 v n xs := by
  obtain ⟨h1, h2⟩ := h
  refine ⟨h1, ?_⟩
  rcases h2 with h2 | ⟨g, cap, cur, hv, hg, hh, r⟩
  · exact Or.inl h2
  · exact Or.inr ⟨g, cap, cur, hv, hg, (hb g (by rw [hv]; rfl)).trans hh, r⟩

theorem Str.blocks {B : Nat} {w w' : World} {gx : Nat} {s : ByteArray} {σ : St} {vt : Value} (h : Str B w gx s σ vt) (e1 : w'.heap[gx]? = w.heap[gx]?) (e2 : ∀ g, vt.ownBlock = some g → w'.heap[g]? = w.heap[g]?) : Str B w' gx s σ vt :=
  ⟨h.le, h.row.of_block e1, own_of_block h.own e2, h.ne⟩
theorem Str.later {B : Nat} {w w' : World} {gx : Nat} {s : ByteArray} {σ : St} {vt : Value} (h : Str B w gx s σ vt) (hb : Below w.heap.size w w') : Str B w' gx s σ vt :=
  h.blocks (hb.block gx h.row.lt) (fun g hg => hb.block g (h.own.lt g hg).2)
theorem Kp.later {w w1 w2 : World} {gx : Nat} {vt : Value} (h : Kp w w1 gx vt) (hb : Below w1.heap.size w1 w2) : Kp w w2 gx vt :=
  ⟨hb.os.trans h.os, hb.tape.trans h.tape, hb.output.trans h.output, Nat.le_trans h.size hb.size, fun b hw hx hv => (hb.block b (Nat.lt_of_lt_of_le hw h.size)).trans (h.block b hw hx hv)⟩
theorem Str.vlt {B : Nat} {w : World} {gx : Nat} {s : ByteArray} {σ : St} {vt : Value} (h : Str B w gx s σ vt) (g : Nat) (hg : vt.ownBlock = some g) : g < w.heap.size := (h.own.lt g hg).2

theorem order_any (w : World) : Calls Try.prog 58 #[] w fun e w' => e = .returned (.slice (some ⟨w.heap.size, 0, none⟩) 19 19) ∧ w'.rowIs w.heap.size 3 19 (fun i => .int .i64 (ordN i : Nat)) ∧ Below w.heap.size w w' := by
  go_enter Try.func58, Try.ntmps58
  go_wp2
  go_ret
  refine ⟨rfl, ?_, (Below.refl _ _).alloc (Nat.le_refl _) _⟩
  refine World.rowIs_alloc w _ 3 _ (fun i hi => ?_)
  have hi' : i < 19 := hi
  match i, hi' with
  | 0, _ => rfl
  | 1, _ => rfl
  | 2, _ => rfl
  | 3, _ => rfl
  | 4, _ => rfl
  | 5, _ => rfl
  | 6, _ => rfl
  | 7, _ => rfl
  | 8, _ => rfl
  | 9, _ => rfl
  | 10, _ => rfl
  | 11, _ => rfl
  | 12, _ => rfl
  | 13, _ => rfl
  | 14, _ => rfl
  | 15, _ => rfl
  | 16, _ => rfl
  | 17, _ => rfl
  | 18, _ => rfl
  | i + 19, h => exact absurd h (by omega)

/-- While the head is read: r lengths are still to come, from number i on. -/
structure HR (B : Nat) (w wr : World) (gx : Nat) (s : ByteArray) (vt : Value) (gw go r i : Nat) (f : Nat → Nat) (σ : St) (goal : (Nat → Nat) × St) : Prop where
  str : Str B wr gx s σ vt
  kp : Kp w wr gx vt
  fit : Fit s σ
  ow : wr.rowIs gw 3 19 (fun j => .int .i64 (f j : Nat))
  ord : wr.rowIs go 3 19 (fun j => .int .i64 (ordN j : Nat))
  eq : headGo s r i f σ = goal

/-- Blocks that are not the stream's. -/
structure Off (w : World) (gx : Nat) (vt : Value) (g : Nat) : Prop where
  new : w.heap.size ≤ g
  nx : g ≠ gx
  nv : vt.ownBlock ≠ some g

theorem Str.off {B : Nat} {w : World} {gx : Nat} {s : ByteArray} {σ : St} {vt : Value} (h : Str B w gx s σ vt) {g : Nat} (hg : w.heap.size ≤ g) : Off w gx vt g :=
  ⟨hg, fun e => by have := h.row.lt; omega, fun e => by have := h.vlt g e; omega⟩

theorem hr_step {B : Nat} {w wr w2 : World} {gx : Nat} {s : ByteArray} {vt : Value} {gw go r i : Nat} {f : Nat → Nat} {σ : St} {goal : (Nat → Nat) × St} (h : HR B w wr gx s vt gw go (r + 1) i f σ goal) (aw : Off w gx vt gw) (ao : Off w gx vt go) (hne : go ≠ gw)
    (h2 : Str B w2 gx s (numF s 3 σ).2 vt) (k2 : Kp wr w2 gx vt) :
    w2.rowIs gw 3 19 (fun j => .int .i64 (f j : Nat)) ∧ w2.rowIs go 3 19 (fun j => .int .i64 (ordN j : Nat)) ∧
    HR B w (w2.setCell ⟨gw, ordN i, none⟩ (.int .i64 ((numF s 3 σ).1 : Nat))) gx s vt gw go r (i + 1) (fun j => if j = ordN i then (numF s 3 σ).1 else f j) (numF s 3 σ).2 goal := by
  have r1 := h.ow.of_block (k2.block gw h.ow.lt aw.nx aw.nv)
  have r2 := h.ord.of_block (k2.block go h.ord.lt ao.nx ao.nv)
  have k3 := h.kp.trans k2
  refine ⟨r1, r2, h2.blocks (Below.heap_setCell _ _ _ _ (fun e => aw.nx e.symm)) (fun g hg => Below.heap_setCell _ _ _ _ (fun e => ?_)), ⟨k3.os, k3.tape, k3.output, by simp [World.setCell]; exact k3.size, fun b hb hx hv => ?_⟩, h.fit.num 3, ?_, ?_, h.eq⟩
  · subst e; exact aw.nv hg
  · rw [Below.heap_setCell _ _ _ _ (fun e => by subst e; have := aw.new; omega)]
    exact k3.block b hb hx hv
  · exact (r1.set (ordN i) _).congr (fun j _ => by by_cases e : j = ordN i <;> simp [e])
  · exact r2.of_block (Below.heap_setCell _ _ _ _ hne)

def intVals (L : List Int) : List Value := L.map fun x => Value.int .i64 x
theorem intVals_snoc (L : List Int) (x : Int) : intVals (L ++ [x]) = intVals L ++ [.int .i64 x] := by simp [intVals]
theorem intVals_get (L : List Int) (j : Nat) (hj : j < L.length) : (intVals L)[j]? = some (.int .i64 (L.getD j 0)) := by
  unfold intVals
  rw [List.getElem?_map, List.getElem?_eq_getElem hj]
  simp [List.getD_eq_getElem?_getD, List.getElem?_eq_getElem hj]

/-- While the lengths are read: those that are there. -/
structure ER (B : Nat) (w wr : World) (gx : Nat) (s : ByteArray) (vt : Value) (Bl gc : Nat) (c : Nat → ByteArray) (v : Value) (L : List Int) (σ : St) : Prop where
  str : Str B wr gx s σ vt
  kp : Kp w wr gx vt
  fit : Fit s σ
  own : wr.ownsRow Bl 3 1 v L.length (intVals L)
  row : wr.rowIs gc 9 19 (fun i => .string (c i))
  bl : Bl ≤ wr.heap.size

/-- The block numbers lie so. -/
structure Lie (w : World) (gx : Nat) (vt : Value) (Bl gc : Nat) : Prop where
  le : w.heap.size ≤ Bl
  c : Off w gx vt gc
  cl : gc < Bl
  x : gx < Bl
  v : ∀ g, vt.ownBlock = some g → g < Bl

theorem er_call {B : Nat} {w wr w2 : World} {gx : Nat} {s : ByteArray} {vt : Value} {Bl gc : Nat} {c : Nat → ByteArray} {v : Value} {L : List Int} {σ σ' : St} (h : ER B w wr gx s vt Bl gc c v L σ) (li : Lie w gx vt Bl gc) (h2 : Str B w2 gx s σ' vt) (k2 : Kp wr w2 gx vt) (hf : Fit s σ') :
    ER B w w2 gx s vt Bl gc c v L σ' := by
  refine ⟨h2, h.kp.trans k2, hf, own_of_block h.own (fun g hg => ?_), h.row.of_block (k2.block gc h.row.lt li.c.nx li.c.nv), Nat.le_trans h.bl k2.size⟩
  have hl := h.own.lt g hg
  exact k2.block g hl.2 (fun e => by have := li.x; omega) (fun e => by have := li.v g e; omega)

theorem er_more {B : Nat} {w wr w2 : World} {gx : Nat} {s : ByteArray} {vt : Value} {Bl gc : Nat} {c : Nat → ByteArray} {v : Value} {L : List Int} {σ : St} {x : Int} {n g' cap' : Nat} {o : Obj} (h : ER B w wr gx s vt Bl gc c v L σ) (li : Lie w gx vt Bl gc) (hn : n = L.length)
    (ho : w2.ownsRow Bl 3 1 (.slice (some ⟨g', 0, none⟩) (n + 1) cap') (n + 1) (intVals L ++ [.int .i64 x])) (hg : (wr.alloc o).grownBy w2 (some g')) :
    ER B w w2 gx s vt Bl gc c (.slice (some ⟨g', 0, none⟩) (n + 1) cap') (L ++ [x]) σ := by
  subst hn
  have hl := (ho.lt g' rfl).1
  have hb : Below Bl wr w2 := ((Below.refl Bl wr).alloc h.bl _).grown hg (by have := h.bl; simp; omega) (fun j e => by obtain rfl := Option.some.inj e; exact hl)
  refine ⟨h.str.blocks (hb.block gx li.x) (fun g hg => hb.block g (li.v g hg)), ⟨hb.os.trans h.kp.os, hb.tape.trans h.kp.tape, hb.output.trans h.kp.output, Nat.le_trans h.kp.size hb.size, fun b hw hx hv => (hb.block b (Nat.lt_of_lt_of_le hw li.le)).trans (h.kp.block b hw hx hv)⟩, h.fit, ?_, h.row.of_block (hb.block gc li.cl), Nat.le_trans h.bl hb.size⟩
  rw [intVals_snoc, List.length_append]
  exact ho

theorem er_form {B : Nat} {w wr : World} {gx : Nat} {s : ByteArray} {vt : Value} {Bl gc : Nat} {c : Nat → ByteArray} {v : Value} {L : List Int} {σ : St} (h : ER B w wr gx s vt Bl gc c v L σ) : ∃ ao cap, v = .slice ao L.length cap := by
  obtain ⟨_, q⟩ := h.own
  rcases q with ⟨q, q0⟩ | ⟨g, cap, cur, q, _⟩
  · exact ⟨none, 0, by rw [q, q0]⟩
  · exact ⟨_, _, q⟩
theorem er_form1 {B : Nat} {w wr : World} {gx : Nat} {s : ByteArray} {vt : Value} {Bl gc : Nat} {c : Nat → ByteArray} {v : Value} {L : List Int} {σ : St} (h : ER B w wr gx s vt Bl gc c v L σ) (h1 : 1 ≤ L.length) :
    ∃ g cap, v = .slice (some ⟨g, 0, none⟩) L.length cap ∧ Bl ≤ g ∧ L.length ≤ cap ∧ IntsAt wr g 0 L.length (fun i => L.getD i 0) := by
  have hq := h.own
  obtain ⟨_, q⟩ := h.own
  rcases q with ⟨_, q0⟩ | ⟨g, cap, cur, q, hb, hh, hc, _⟩
  · omega
  · refine ⟨g, cap, q, hb, hc, fun i hi => ?_, (hq.lt g (by rw [q]; rfl)).2⟩
    rw [Nat.zero_add, ← addr_add0]
    exact hq.cells (g := g) (by rw [q]; rfl) i _ (intVals_get L i hi)

theorem len_next {s : ByteArray} {c : Nat → ByteArray} {n f : Nat} {L : List Int} {σ : St} {goal : List Int × St} {q : Int × St} {T : Nat} {X : Int} {σ3 : St} (heq : lenGo s c n f L σ = goal) (hf : n - L.length + 1 ≤ f) (hlt : L.length < n) (hy : σ.why = 0)
    (hq : symF s c 19 σ = q) (hst : lenStep s L q = (false, T, X, σ3)) : 1 ≤ f ∧ n - (L ++ List.replicate T X).length + 1 ≤ f - 1 ∧ (L ++ List.replicate T X).length ≤ n + 138 ∧ lenGo s c n (f - 1) (L ++ List.replicate T X) σ3 = goal := by
  obtain ⟨f', rfl⟩ : ∃ f', f = f' + 1 := ⟨f - 1, by omega⟩
  have h1 := lenStep_most s L q
  have h2 := lenStep_one (s := s) (L := L) (k := q) (by rw [hst])
  rw [hst] at h1 h2
  simp only at h1 h2
  simp only [lenGo] at heq
  rw [if_pos ⟨hlt, hy⟩, hq, hst, if_neg (by simp)] at heq
  rw [List.length_append, List.length_replicate]
  exact ⟨by omega, by omega, by omega, heq⟩

theorem len_stop {s : ByteArray} {c : Nat → ByteArray} {n f : Nat} {L : List Int} {σ : St} {goal : List Int × St} {q : Int × St} {σ3 : St} (heq : lenGo s c n f L σ = goal) (hf : n - L.length + 1 ≤ f) (hlt : L.length < n) (hy : σ.why = 0)
    (hq : symF s c 19 σ = q) (hst : lenStep s L q = (true, 0, 0, σ3)) : goal = ([], σ3) := by
  obtain ⟨f', rfl⟩ : ∃ f', f = f' + 1 := ⟨f - 1, by omega⟩
  simp only [lenGo] at heq
  rw [if_pos ⟨hlt, hy⟩, hq, hst, if_pos rfl] at heq
  exact heq.symm

theorem len_end {s : ByteArray} {c : Nat → ByteArray} {n f : Nat} {L : List Int} {σ : St} {goal : List Int × St} (heq : lenGo s c n f L σ = goal) (hf : 1 ≤ f) (h : ¬ (L.length < n ∧ σ.why = 0)) : goal = (L, if n < L.length then stopF σ 1 else σ) := by
  obtain ⟨f', rfl⟩ : ∃ f', f = f' + 1 := ⟨f - 1, by omega⟩
  simp only [lenGo] at heq
  rw [if_neg h] at heq
  exact heq.symm

theorem codeT_most (z : Nat → Int) (n i : Nat) (hz : 0 ≤ z i ∧ z i ≤ 15) : (codeT z n i).size ≤ 15 := by
  unfold codeT
  split
  · exact Nat.zero_le _
  · rw [bitsB_size]; omega

/-- What lengths gives. -/
def LensPost (B : Nat) (w : World) (gx : Nat) (s : ByteArray) (vt : Value) (n : Nat) (p : List Int × St) (e : Ending) (w' : World) : Prop :=
  ∃ v, e = .returned v ∧ Str B w' gx s p.2 vt ∧ Kp w w' gx vt ∧ (p.2.why = 0 → ∃ g cap, v = .slice (some ⟨g, 0, none⟩) n cap ∧ w.heap.size ≤ g ∧ n ≤ cap ∧ IntsAt w' g 0 n (fun i => p.1.getD i 0))

end Go.Proofs.Ytnfghnolklhppaa
