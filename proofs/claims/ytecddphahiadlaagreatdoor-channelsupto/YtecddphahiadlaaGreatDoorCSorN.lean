import Derived.Test.YtecddphahiadlaaGreatDoorCBufM
/- The frames' sorter in memory. -/
namespace Go.Proofs.YtecddphahiadlaaGreatDoor
open Go.RowKit
/-- A sorter, plainly: the frame that is not whole; what came on each channel and was not read. -/
structure Sp where
 fr : List UInt8
 ch : Nat → List UInt8
def putS (N : Nat) (z : Sp) (c : UInt8) : Bool × Sp :=
 if z.fr.length = 0 then (decide (c.toNat < N), { z with fr := z.fr ++ [c] })
 else if z.fr.length = 1 then (decide (1 ≤ c.toNat ∧ c.toNat ≤ 20), { z with fr := z.fr ++ [c] })
 else if z.fr.length + 1 = 2 + (z.fr.getD 1 0).toNat then (true, ⟨[], fun k => if k = (z.fr.getD 0 0).toNat then z.ch k ++ (z.fr ++ [c]).drop 2 else z.ch k⟩)
 else (true, { z with fr := z.fr ++ [c] })
/-- No wrong frame so far. -/
structure Wf (N : Nat) (z : Sp) : Prop where
 a : 1 ≤ z.fr.length → (z.fr.getD 0 0).toNat < N
 b : 2 ≤ z.fr.length → 1 ≤ (z.fr.getD 1 0).toNat ∧ (z.fr.getD 1 0).toNat ≤ 20 ∧ z.fr.length < 2 + (z.fr.getD 1 0).toNat
theorem getD_app {l r : List UInt8} {i : Nat} (h : i < l.length) : (l ++ r).getD i 0 = l.getD i 0 := by
 rw [List.getD_eq_getElem?_getD, List.getD_eq_getElem?_getD, List.getElem?_append_left h]
theorem getD_last (l : List UInt8) (c : UInt8) : (l ++ [c]).getD l.length 0 = c := by
 rw [List.getD_eq_getElem?_getD, List.getElem?_concat_length]; rfl
theorem Wf.put {N : Nat} {z : Sp} {c : UInt8} (h : Wf N z) (k : (putS N z c).1 = true) : Wf N (putS N z c).2 := by
 unfold putS at k ⊢
 by_cases h0 : z.fr.length = 0
 ·
  rw [if_pos h0] at k ⊢
  have e : z.fr = [] := List.eq_nil_of_length_eq_zero h0
  refine ⟨fun _ => ?_, fun q => ?_⟩
  · simp only [e]; simpa using k
  · simp only [e] at q; simp at q
 ·
  rw [if_neg h0] at k ⊢
  by_cases h1 : z.fr.length = 1
  ·
   rw [if_pos h1] at k ⊢
   have k' : 1 ≤ c.toNat ∧ c.toNat ≤ 20 := by simpa using k
   have el := getD_last z.fr c
   rw [h1] at el
   refine ⟨fun _ => ?_, fun _ => ?_⟩
   ·
    show ((z.fr ++ [c]).getD 0 0).toNat < N
    rw [getD_app (by omega)]
    exact h.a (by omega)
   ·
    show 1 ≤ ((z.fr ++ [c]).getD 1 0).toNat ∧ ((z.fr ++ [c]).getD 1 0).toNat ≤ 20 ∧ (z.fr ++ [c]).length < 2 + ((z.fr ++ [c]).getD 1 0).toNat
    rw [el, List.length_append, h1]
    exact ⟨k'.1, k'.2, by simp; omega⟩
  ·
   rw [if_neg h1] at k ⊢
   by_cases h2 : z.fr.length + 1 = 2 + (z.fr.getD 1 0).toNat
   ·
    rw [if_pos h2]
    exact ⟨fun q => by simp at q, fun q => by simp at q⟩
   ·
    rw [if_neg h2]
    have hb := h.b (by omega)
    refine ⟨fun _ => ?_, fun _ => ?_⟩
    ·
     show ((z.fr ++ [c]).getD 0 0).toNat < N
     rw [getD_app (by omega)]
     exact h.a (by omega)
    ·
     show 1 ≤ ((z.fr ++ [c]).getD 1 0).toNat ∧ ((z.fr ++ [c]).getD 1 0).toNat ≤ 20 ∧ (z.fr ++ [c]).length < 2 + ((z.fr ++ [c]).getD 1 0).toNat
     rw [getD_app (by omega), List.length_append]
     refine ⟨hb.1, hb.2.1, ?_⟩
     have := hb.2.2
     rw [List.length_singleton]
     omega
/-- One cell of a row anew. -/
def upd1 (f : Nat → Value) (o : Nat) (v : Value) (i : Nat) : Value := if i = o then v else f i
theorem upd1_eq (f : Nat → Value) (o : Nat) (v : Value) : upd1 f o v o = v := by unfold upd1; rw [if_pos rfl]
theorem upd1_ne {f : Nat → Value} {o : Nat} {v : Value} {i : Nat} (h : i ≠ o) : upd1 f o v i = f i := by unfold upd1; rw [if_neg h]
theorem upd1_upd1 (f : Nat → Value) (o : Nat) (v v' : Value) : upd1 (upd1 f o v) o v' = upd1 f o v' := by
 funext i; unfold upd1; split <;> rfl
/-- A sorter in memory, at o in block gx; its own blocks lie in U. -/
structure So (U : Nat → Prop) (B : Nat) (w : World) (gx o : Nat) (T : TypeId) (n : Nat) (f : Nat → Value) (gc N : Nat) (fc : Nat → Value) (vf : Value) (v : Nat → Value) (t : Nat) (z : Sp) : Prop where
 row : w.rowIs gx T n f
 room : o + 2 ≤ n
 f0 : f o = vf
 f1 : f (o + 1) = .slice (some ⟨gc, 0, none⟩) N N
 few : N ≤ 8
 crow : w.rowIs gc 93 (3 * N) fc
 own : w.ownsRow B 5 1 vf z.fr.length (byteVals z.fr)
 frt : z.fr.length ≤ t
 buf : ∀ c, c < N → ∃ off lr M, Bf B w gc (3 * c) 93 (3 * N) fc (v c) off lr M ∧ (M = [] → v c = .slice none 0 0) ∧ M.drop off = z.ch c ∧ M.length + z.fr.length ≤ t
 inU : U gc ∧ (∀ g, vf.ownBlock = some g → U g) ∧ ∀ c, c < N → ∀ g, (v c).ownBlock = some g → U g
 noU : ¬ U gx
 fc0 : vf.ownBlock ≠ some gc
 fv : ∀ c, c < N → ∀ g, vf.ownBlock = some g → (v c).ownBlock ≠ some g
 apart : ∀ c, c < N → ∀ d, d < N → c ≠ d → ∀ g, (v c).ownBlock = some g → (v d).ownBlock ≠ some g
/-- What else is kept. -/
structure Kq (w w' : World) (gx : Nat) (U : Nat → Prop) : Prop where
 os : w'.os = w.os
 tape : w'.tape = w.tape
 output : w'.output = w.output
 size : w.heap.size ≤ w'.heap.size
 block : ∀ b, b < w.heap.size → b ≠ gx → ¬ U b → w'.heap[b]? = w.heap[b]?
theorem Kq.refl (w : World) (gx : Nat) (U : Nat → Prop) : Kq w w gx U := ⟨rfl, rfl, rfl, Nat.le_refl _, fun _ _ _ _ => rfl⟩
theorem Kq.trans {w w1 w2 : World} {gx : Nat} {U U1 : Nat → Prop} (h : Kq w w1 gx U) (k : Kq w1 w2 gx U1) (hU : ∀ b, b < w.heap.size → U1 b → U b) : Kq w w2 gx U :=
 ⟨k.os.trans h.os, k.tape.trans h.tape, k.output.trans h.output, Nat.le_trans h.size k.size, fun b hb hx hu => (k.block b (by have := h.size; omega) hx (fun e => hu (hU b hb e))).trans (h.block b hb hx hu)⟩
theorem Kq.drewN {w w' : World} {gx : Nat} {U : Nat → Prop} (h : Kq w w' gx U) (q : Nat) : Kq w (w'.drewN q) gx U := ⟨h.os, h.tape, h.output, h.size, h.block⟩
theorem So.c0 {U : Nat → Prop} {B : Nat} {w : World} {gx o : Nat} {T : TypeId} {n : Nat} {f : Nat → Value} {gc N : Nat} {fc : Nat → Value} {vf : Value} {v : Nat → Value} {t : Nat} {z : Sp} (h : So U B w gx o T n f gc N fc vf v t z) : w.cell? ⟨gx, o, none⟩ = some vf := by rw [h.row.cell (by have := h.room; omega), h.f0]
theorem So.c1 {U : Nat → Prop} {B : Nat} {w : World} {gx o : Nat} {T : TypeId} {n : Nat} {f : Nat → Value} {gc N : Nat} {fc : Nat → Value} {vf : Value} {v : Nat → Value} {t : Nat} {z : Sp} (h : So U B w gx o T n f gc N fc vf v t z) : w.cell? ⟨gx, o + 1, none⟩ = some (.slice (some ⟨gc, 0, none⟩) N N) := by rw [h.row.cell (by have := h.room; omega), h.f1]
theorem So.fz {U : Nat → Prop} {B : Nat} {w : World} {gx o : Nat} {T : TypeId} {n : Nat} {f : Nat → Value} {gc N : Nat} {fc : Nat → Value} {vf : Value} {v : Nat → Value} {t : Nat} {z : Sp} (h : So U B w gx o T n f gc N fc vf v t z) (i : Nat) : w.frozen? ⟨gx, i, none⟩ = false := h.row.frozen i
theorem So.drewN {U : Nat → Prop} {B : Nat} {w : World} {gx o : Nat} {T : TypeId} {n : Nat} {f : Nat → Value} {gc N : Nat} {fc : Nat → Value} {vf : Value} {v : Nat → Value} {t : Nat} {z : Sp} (h : So U B w gx o T n f gc N fc vf v t z) (q : Nat) : So U B (w.drewN q) gx o T n f gc N fc vf v t z :=
 ⟨h.row.of_block rfl, h.room, h.f0, h.f1, h.few, h.crow.of_block rfl, h.own, h.frt, fun c hc => by
  obtain ⟨off, lr, M, h1, h2⟩ := h.buf c hc
  exact ⟨off, lr, M, h1.drewN q, h2⟩, h.inU, h.noU, h.fc0, h.fv, h.apart⟩
theorem So.frame {U : Nat → Prop} {B : Nat} {w w' : World} {gx o : Nat} {T : TypeId} {n : Nat} {f f' : Nat → Value} {gc N : Nat} {fc : Nat → Value} {vf : Value} {v : Nat → Value} {t : Nat} {z : Sp} (h : So U B w gx o T n f gc N fc vf v t z) (hr : w'.rowIs gx T n f') (h0 : f' o = f o) (h1 : f' (o + 1) = f (o + 1)) (hU : ∀ b, U b → w'.heap[b]? = w.heap[b]?) : So U B w' gx o T n f' gc N fc vf v t z :=
 ⟨hr, h.room, h0.trans h.f0, h1.trans h.f1, h.few, h.crow.of_block (hU _ h.inU.1), ownsRow_frame h.own (fun g e => hU g (h.inU.2.1 g e)), h.frt, fun c hc => by
  obtain ⟨off, lr, M, k1, k2⟩ := h.buf c hc
  exact ⟨off, lr, M, k1.frame (hU _ h.inU.1) (fun g e => hU g (h.inU.2.2 c hc g e)), k2⟩, h.inU, h.noU, h.fc0, h.fv, h.apart⟩
/-- The frame's slice is laid anew: it may lie in another block by then. -/
theorem So.setFrame {U : Nat → Prop} {B : Nat} {w w2 : World} {gx o : Nat} {T : TypeId} {n : Nat} {f : Nat → Value} {gc N : Nat} {fc : Nat → Value} {vf : Value} {v : Nat → Value} {t t' : Nat} {z : Sp} (h : So U B w gx o T n f gc N fc vf v t z) (vf' : Value) (F : List UInt8) (ho : w2.ownsRow B 5 1 vf' F.length (byteVals F))
 (hn : ∀ g, vf'.ownBlock = some g → vf.ownBlock = some g ∨ w.heap.size ≤ g) (hb : ∀ b, b < w.heap.size → vf.ownBlock ≠ some b → w2.heap[b]? = w.heap[b]?) (htt : F.length ≤ t' ∧ ∀ m, m + z.fr.length ≤ t → m + F.length ≤ t') (hs : w.heap.size ≤ w2.heap.size) (hos : w2.os = w.os) (hta : w2.tape = w.tape) (hou : w2.output = w.output) :
 w2.cell? ⟨gx, o, none⟩ = some vf ∧ w2.frozen? ⟨gx, o, none⟩ = false ∧ So (SN U w.heap.size) B (w2.setCell ⟨gx, o, none⟩ vf') gx o T n (upd1 f o vf') gc N fc vf' v t' { z with fr := F } ∧ Kq w (w2.setCell ⟨gx, o, none⟩ vf') gx U := by
 have hgx := h.row.lt
 have hgc := h.crow.lt
 have hux := h.noU
 have huc := h.inU.1
 have hcx : gc ≠ gx := fun e => hux (e ▸ huc)
 have hfx : vf.ownBlock ≠ some gx := fun e => hux (h.inU.2.1 _ e)
 have hfc := h.fc0
 have hr2 := h.row.of_block (hb gx hgx hfx)
 have hf'x : vf'.ownBlock ≠ some gx := fun e => by
  rcases hn _ e with q | q
  · exact hfx q
  · omega
 have hvlt : ∀ c, c < N → ∀ g, (v c).ownBlock = some g → g < w.heap.size := fun c hc g e => by
  obtain ⟨off, lr, M, k1, _⟩ := h.buf c hc
  exact (k1.own.lt _ e).2
 refine ⟨by rw [hr2.cell (by have := h.room; omega), h.f0], hr2.frozen o, ⟨(hr2.set o _).congr (fun i _ => rfl), h.room, upd1_eq _ _ _, by rw [upd1_ne (by omega)]; exact h.f1, h.few, ?_, owns_setB ho hf'x _ _, htt.1, fun c hc => ?_, ⟨Or.inl huc, fun g e => ?_, fun c hc g e => Or.inl (h.inU.2.2 c hc g e)⟩, ?_, fun e => ?_, fun c hc g e e2 => ?_, h.apart⟩, ⟨hos, hta, hou, by simp [World.setCell]; exact hs, fun b hb2 hx hu => ?_⟩⟩
 · exact h.crow.of_block ((Below.heap_setCell _ _ _ _ hcx).trans (hb gc hgc hfc))
 ·
  obtain ⟨off, lr, M, k1, k2, k3, k4⟩ := h.buf c hc
  refine ⟨off, lr, M, k1.frame ((Below.heap_setCell _ _ _ _ hcx).trans (hb gc hgc hfc)) (fun g e => ?_), k2, k3, htt.2 _ k4⟩
  have hgx2 : g ≠ gx := fun e2 => hux (h.inU.2.2 c hc gx (e2 ▸ e))
  rw [Below.heap_setCell _ _ _ _ hgx2]
  exact hb g (hvlt c hc g e) (fun q => h.fv c hc g q e)
 ·
  rcases hn _ e with q | q
  · exact Or.inl (h.inU.2.1 _ q)
  · exact Or.inr q
 ·
  rintro (q | q)
  · exact hux q
  · omega
 ·
  rcases hn _ e with q | q
  · exact hfc q
  · omega
 ·
  rcases hn _ e with q | q
  · exact h.fv c hc g q e2
  ·
   have := hvlt c hc g e2
   omega
 ·
  rw [Below.heap_setCell _ _ _ _ hx]
  exact hb b hb2 (fun e => hu (h.inU.2.1 _ e))
/-- A channel's buffer is laid anew. -/
theorem So.setBuf {U : Nat → Prop} {B : Nat} {w w' : World} {gx o : Nat} {T : TypeId} {n : Nat} {f : Nat → Value} {gc N : Nat} {fc : Nat → Value} {vf : Value} {v : Nat → Value} {t t' : Nat} {z : Sp} (h : So U B w gx o T n f gc N fc vf v t z) (c : Nat) (hc : c < N) (v' : Value) (off' : Nat) (lr' : Int) (M' : List UInt8)
 (hp : BufP B w gc (3 * c) 93 (3 * N) fc (v c) w' v' off' lr' M') (hz : M' = [] → v' = .slice none 0 0) (ht : t ≤ t') (hm : M'.length + z.fr.length ≤ t') :
 So (SN U w.heap.size) B w' gx o T n f gc N (updB fc (3 * c) v' off' lr') vf (fun d => if d = c then v' else v d) t' { z with ch := fun d => if d = c then M'.drop off' else z.ch d } ∧ Kq w w' gx U := by
 obtain ⟨hb, hk, hv⟩ := hp
 have hgx := h.row.lt
 have hgc := h.crow.lt
 have hux := h.noU
 have huc := h.inU.1
 have hxc : gx ≠ gc := fun e => hux (e ▸ huc)
 have hvx : (v c).ownBlock ≠ some gx := fun e => hux (h.inU.2.2 c hc _ e)
 have hfl : ∀ g, vf.ownBlock = some g → g < w.heap.size := fun g e => (h.own.lt _ e).2
 have hvlt : ∀ c, c < N → ∀ g, (v c).ownBlock = some g → g < w.heap.size := fun c hc g e => by
  obtain ⟨off, lr, M, k1, _⟩ := h.buf c hc
  exact (k1.own.lt _ e).2
 have hvc : ∀ d, d < N → (v d).ownBlock ≠ some gc := fun d hd => by
  obtain ⟨off, lr, M, k1, _⟩ := h.buf d hd
  exact k1.ne
 refine ⟨⟨h.row.of_block (hk.block gx hgx hxc hvx), h.room, h.f0, h.f1, h.few, hb.row, ownsRow_frame h.own (fun g e => hk.block g (hfl g e) (fun e2 => h.fc0 (e2 ▸ e)) (fun e2 => h.fv c hc g e e2)), Nat.le_trans h.frt ht, fun d hd => ?_, ⟨Or.inl huc, fun g e => Or.inl (h.inU.2.1 g e), fun d hd g e => ?_⟩, ?_, h.fc0, fun d hd g e e2 => ?_, fun d hd d2 hd2 hne g e e2 => ?_⟩, ⟨hk.os, hk.tape, hk.output, hk.size, fun b hb2 hx hu => hk.block b hb2 (fun e => hu (e ▸ huc)) (fun e => hu (h.inU.2.2 c hc b e))⟩⟩
 ·
  by_cases e : d = c
  ·
   subst e
   refine ⟨off', lr', M', ?_, ?_, ?_, hm⟩
   · simp only [if_true]; exact hb
   · simp only [if_true]; exact hz
   · simp only [if_true]
  ·
   obtain ⟨off, lr, M, k1, k2, k3, k4⟩ := h.buf d hd
   refine ⟨off, lr, M, ?_, ?_, ?_, by show M.length + z.fr.length ≤ t'; omega⟩
   ·
    simp only [if_neg e]
    have hne : ∀ i, i < 3 → updB fc (3 * c) v' off' lr' (3 * d + i) = fc (3 * d + i) := fun i hi => updB_o (by omega) (by omega) (by omega)
    refine ⟨hb.row, k1.room, ?_, ?_, ?_, ownsRow_frame k1.own (fun g eg => hk.block g (hvlt d hd g eg) (fun e2 => hvc d hd (e2 ▸ eg)) (fun e2 => h.apart d hd c hc e g eg e2)), k1.le, k1.ne⟩
    · exact (hne 0 (by omega)).trans k1.f0
    · exact (hne 1 (by omega)).trans k1.f1
    · exact (hne 2 (by omega)).trans k1.f2
   · simp only [if_neg e]; exact k2
   · simp only [if_neg e]; exact k3
 ·
  by_cases q : d = c
  ·
   simp only [if_pos q] at e
   rcases hv g e with q2 | q2
   · exact Or.inl (h.inU.2.2 c hc g q2)
   · exact Or.inr q2
  ·
   simp only [if_neg q] at e
   exact Or.inl (h.inU.2.2 d hd g e)
 ·
  rintro (q | q)
  · exact hux q
  · omega
 ·
  by_cases q : d = c
  ·
   simp only [if_pos q] at e2
   rcases hv g e2 with q2 | q2
   · exact h.fv c hc g e q2
   ·
    have := hfl g e
    omega
  ·
   simp only [if_neg q] at e2
   exact h.fv d hd g e e2
 ·
  by_cases q : d = c
  ·
   have q2 : ¬ d2 = c := fun x => hne (q.trans x.symm)
   simp only [if_pos q] at e
   simp only [if_neg q2] at e2
   rcases hv g e with q3 | q3
   · exact h.apart c hc d2 hd2 (fun x => q2 x.symm) g q3 e2
   ·
    have := hvlt d2 hd2 g e2
    omega
  ·
   simp only [if_neg q] at e
   by_cases q2 : d2 = c
   ·
    simp only [if_pos q2] at e2
    rcases hv g e2 with q3 | q3
    · exact h.apart d hd c hc q g e q3
    ·
     have := hvlt d hd g e
     omega
   ·
    simp only [if_neg q2] at e2
    exact h.apart d hd d2 hd2 hne g e e2
theorem So.reU {U U' : Nat → Prop} {B : Nat} {w : World} {gx o : Nat} {T : TypeId} {n : Nat} {f : Nat → Value} {gc N : Nat} {fc : Nat → Value} {vf : Value} {v : Nat → Value} {t : Nat} {z : Sp} (h : So U B w gx o T n f gc N fc vf v t z) (hU : ∀ b, U b → U' b) (hx : ¬ U' gx) : So U' B w gx o T n f gc N fc vf v t z :=
 ⟨h.row, h.room, h.f0, h.f1, h.few, h.crow, h.own, h.frt, h.buf, ⟨hU _ h.inU.1, fun g e => hU _ (h.inU.2.1 g e), fun c hc g e => hU _ (h.inU.2.2 c hc g e)⟩, hx, h.fc0, h.fv, h.apart⟩
theorem owns_none {B : Nat} {w : World} {g n cap : Nat} {l : List Value} (h : w.ownsRow B 5 1 (.slice (some ⟨g, 0, none⟩) n cap) n l) : w.ownsRow B 5 1 (.slice (some ⟨g, 0, none⟩) 0 cap) ([] : List UInt8).length (byteVals []) := by
 obtain ⟨_, q⟩ := h
 rcases q with ⟨q, _⟩ | ⟨g2, cap2, cur, hv, hg, hh, hc, hcm, hcs, htk⟩
 · simp at q
 ·
  simp only [Value.slice.injEq, Option.some.injEq, Addr.mk.injEq, and_true, true_and] at hv
  obtain ⟨e1, e2⟩ := hv
  subst e1 e2
  exact ⟨rfl, Or.inr ⟨g, cap, cur, rfl, hg, hh, Nat.zero_le _, hcm, hcs, by simp [byteVals]⟩⟩
theorem owns_cap {B : Nat} {w : World} {g n cap : Nat} {l : List Value} (h : w.ownsRow B 5 1 (.slice (some ⟨g, 0, none⟩) n cap) n l) : n ≤ cap := by
 obtain ⟨_, q⟩ := h
 rcases q with ⟨q, _⟩ | ⟨g2, cap2, cur, hv, hg, hh, hc, _⟩
 · simp at q
 ·
  simp only [Value.slice.injEq, Option.some.injEq, Addr.mk.injEq, and_true, true_and] at hv
  obtain ⟨e1, e2⟩ := hv
  subst e1 e2
  exact hc
/- The frames' sorter: put. -/
theorem has_any (U : Nat → Prop) (B gx o : Nat) (T : TypeId) (n : Nat) (f : Nat → Value) (gc N : Nat) (fc : Nat → Value) (vf : Value) (v : Nat → Value) (t : Nat) (z : Sp) (k : Int) (w : World) (h : So U B w gx o T n f gc N fc vf v t z) :
 Calls Tryz.prog 66 #[.pointer (some ⟨gx, o, none⟩), .int .i64 k] w fun e w' => e = .returned (.bool (decide (0 ≤ k ∧ k < (N : Int)))) ∧ w' = w := by
 have c1 := h.c1
 clear h
 by_cases h0 : 0 ≤ k
 ·
  have d0 : decide (0 ≤ k) = true := by simpa using h0
  have HF : Hid (decide (0 ≤ k ∧ k < (N : Int)) = decide (k < (N : Int))) := by show _ = _; simp [h0]
  rw [HF.out]
  go_enter Tryz.func66, Tryz.ntmps66
  go_wp2
  go_ret
  exact ⟨rfl, rfl⟩
 ·
  have d0 : decide (0 ≤ k) = false := by simpa using h0
  have HF : Hid (decide (0 ≤ k ∧ k < (N : Int)) = false) := by show _ = _; simp [h0]
  rw [HF.out]
  go_enter Tryz.func66, Tryz.ntmps66
  go_wp2
  go_ret
  exact ⟨rfl, rfl⟩
theorem bwrite_as (B b o : Nat) (T : TypeId) (nn : Nat) (f : Nat → Value) (v : Value) (off : Nat) (lr : Int) (M x : List UInt8) (ap : Addr) (oo L cx : Nat) (w : World) (hoo : oo = o) (hL : x.length = L) (h : Bf B w b o T nn f v off lr M) (hz : M = [] → v = .slice none 0 0) (hB : B ≤ w.heap.size) (hn : 1 ≤ x.length) (hl : M.length + x.length ≤ 17592186044416)
 (hx : ∀ j (hj : j < x.length), w.cell? (ap.add j) = some (.int .u8 (x[j].toNat : Int))) (hpb : ap.block ≠ b) (hpv : v.ownBlock ≠ some ap.block) :
 Calls Tryz.prog 132 #[.pointer (some ⟨b, oo, none⟩), .slice (some ap) L cx] w (WrP B w b o T nn f v M off x) := by
 subst hoo hL
 exact bwrite_any B b oo T nn f v off lr M x ap cx w h hz hB hn hl hx hpb hpv
def PutP (U : Nat → Prop) (B : Nat) (w : World) (gx o : Nat) (T : TypeId) (n : Nat) (f : Nat → Value) (gc N t : Nat) (r : Bool × Sp) (e : Ending) (w' : World) : Prop :=
 ∃ vf' fc' v', e = .returned (.bool r.1) ∧ So (SN U w.heap.size) B w' gx o T n (upd1 f o vf') gc N fc' vf' v' (t + 1) r.2 ∧ Kq w w' gx U
/-- A frame that is whole goes to its channel. -/
theorem put_fin {U : Nat → Prop} {B : Nat} {w W : World} {gx o : Nat} {T : TypeId} {n : Nat} {f : Nat → Value} {gc N : Nat} {fc : Nat → Value} {v : Nat → Value} {t : Nat} {F : List UInt8} {ch : Nat → List UInt8} {g' cap' m p0 off : Nat} {M x : List UInt8}
 (hX : So (SN U w.heap.size) B W gx o T n (upd1 f o (.slice (some ⟨g', 0, none⟩) (m + 1) cap')) gc N fc (.slice (some ⟨g', 0, none⟩) (m + 1) cap') v (t + 1) ⟨F, ch⟩) (hK : Kq w W gx U) (hF : F.length = m + 1) (ha : p0 < N) (hd : M.drop off = ch p0) (hml : M.length + F.length ≤ t + 1) (hxl : x.length ≤ m + 1)
 {w4 : World} {v' : Value} {off' : Nat} {lr' : Int} {M' : List UInt8} (hbp : BufP B W gc (3 * p0) 93 (3 * N) fc (v p0) w4 v' off' lr' M') (hdr : M'.drop off' = M.drop off ++ x) (hm2 : M'.length ≤ M.length + x.length) (hne : M' ≠ []) :
 w4.cell? ⟨gx, o, none⟩ = some (.slice (some ⟨g', 0, none⟩) (m + 1) cap') ∧ w4.frozen? ⟨gx, o, none⟩ = false ∧
 PutP U B w gx o T n f gc N t (true, ⟨[], fun k => if k = p0 then ch k ++ x else ch k⟩) (.returned (.bool true)) (w4.setCell ⟨gx, o, none⟩ (.slice (some ⟨g', 0, none⟩) 0 cap')) := by
 obtain ⟨h5, k5⟩ := hX.setBuf (t' := t + 1 + (m + 1)) p0 ha v' off' lr' M' hbp (fun e => absurd e hne) (by omega) (by show M'.length + F.length ≤ _; omega)
 have ho : w4.ownsRow B 5 1 (.slice (some ⟨g', 0, none⟩) (m + 1) cap') (m + 1) (byteVals F) := by
  have q := h5.own
  rw [show ({ fr := F, ch := fun d => if d = p0 then M'.drop off' else ch d } : Sp).fr.length = m + 1 from hF] at q
  exact q
 obtain ⟨a1, a2, h6, k6⟩ := h5.setFrame (w2 := w4) (t' := t + 1) (.slice (some ⟨g', 0, none⟩) 0 cap') [] (owns_none ho) (fun g e => Or.inl e) (fun b _ _ => rfl) ⟨Nat.zero_le _, fun q hq => by
  have e : q + F.length ≤ t + 1 + (m + 1) := hq
  show q + 0 ≤ t + 1
  omega⟩ (Nat.le_refl _) rfl rfl rfl
 rw [upd1_upd1] at h6
 have s1 : w.heap.size ≤ W.heap.size := hK.size
 have s2 : W.heap.size ≤ w4.heap.size := k5.size
 have hgx := hX.row.lt
 refine ⟨a1, a2, .slice (some ⟨g', 0, none⟩) 0 cap', updB fc (3 * p0) v' off' lr', fun d => if d = p0 then v' else v d, rfl, ?_, ?_⟩
 ·
  have h7 := h6.reU (U' := SN U w.heap.size) (fun b hb => SN.low s1 b (SN.low s2 b hb)) hX.noU
  have e : (fun d => if d = p0 then M'.drop off' else ch d) = fun k => if k = p0 then ch k ++ x else ch k := by
   funext k
   by_cases q : k = p0
   · rw [if_pos q, if_pos q, hdr, hd, q]
   · rw [if_neg q, if_neg q]
  rw [← e]
  exact h7
 ·
  refine hK.trans (k5.trans k6 (fun b hb q => ?_)) (fun b hb q => ?_)
  ·
   rcases q with q | q
   · exact q
   · omega
  ·
   rcases q with q | q
   · exact q
   · omega
set_option maxRecDepth 4000 in
set_option maxHeartbeats 2000000 in
theorem sput_any (U : Nat → Prop) (B gx o : Nat) (T : TypeId) (n : Nat) (f : Nat → Value) (gc N : Nat) (fc : Nat → Value) (vf : Value) (v : Nat → Value) (t : Nat) (z : Sp) (c : UInt8) (w : World) (h : So U B w gx o T n f gc N fc vf v t z) (hB : B ≤ w.heap.size) (hw : Wf N z) (ht : t ≤ 1000000) :
 Calls Tryz.prog 116 #[.pointer (some ⟨gx, o, none⟩), .int .u8 (c.toNat : Int)] w (PutP U B w gx o T n f gc N t (putS N z c)) := by
 have c0 := h.c0
 have f0 := h.fz o
 have hown := h.own
 have hm : z.fr.length ≤ 22 := by
  by_cases q : 2 ≤ z.fr.length
  · have := hw.b q; omega
  · omega
 obtain ⟨ao, cap, hv⟩ : ∃ ao cap, vf = .slice ao z.fr.length cap := by
  obtain ⟨_, q⟩ := hown
  rcases q with ⟨q, q0⟩ | ⟨g, cap, cur, q, _⟩
  · exact ⟨none, 0, by rw [q, q0]⟩
  · exact ⟨_, _, q⟩
 have HSF : Hid (∀ w2 ob g' cap', w2.ownsRow B 5 1 (.slice (some ⟨g', 0, none⟩) (z.fr.length + 1) cap') (z.fr.length + 1) (byteVals z.fr ++ [.int .u8 (c.toNat : Int)]) → (w.heap.size + 1 ≤ g' ∨ vf.ownBlock = some g') → (w.alloc ob).grownBy w2 (some g') →
  w2.cell? ⟨gx, o, none⟩ = some vf ∧ w2.frozen? ⟨gx, o, none⟩ = false ∧ So (SN U w.heap.size) B (w2.setCell ⟨gx, o, none⟩ (.slice (some ⟨g', 0, none⟩) (z.fr.length + 1) cap')) gx o T n (upd1 f o (.slice (some ⟨g', 0, none⟩) (z.fr.length + 1) cap')) gc N fc (.slice (some ⟨g', 0, none⟩) (z.fr.length + 1) cap') v (t + 1) { z with fr := z.fr ++ [c] } ∧ Kq w (w2.setCell ⟨gx, o, none⟩ (.slice (some ⟨g', 0, none⟩) (z.fr.length + 1) cap')) gx U) := fun w2 ob g' cap' ho hd hg => by
  have e : (z.fr ++ [c]).length = z.fr.length + 1 := by simp
  have hft := h.frt
  have hsz : (w.alloc ob).heap.size = w.heap.size + 1 := by simp
  have hs2 := hg.size
  refine h.setFrame _ (z.fr ++ [c]) (by rw [e, byteVals_snoc]; exact ho) (fun g eg => ?_) (fun b hb hbv => ?_) (by rw [e]; exact ⟨by omega, fun m hm => by omega⟩) (by omega) hg.os hg.tape hg.output
  ·
   have : g' = g := Option.some.inj eg
   subst this
   rcases hd with q | q
   · exact Or.inr (by omega)
   · exact Or.inl q
  ·
   refine (hg.block b (by omega) (fun q => ?_)).trans (Below.heap_alloc w ob b hb)
   have : b = g' := Option.some.inj q
   subst this
   rcases hd with q | q
   · omega
   · exact hbv q
 obtain ⟨m, hmm⟩ : ∃ m, m = z.fr.length := ⟨_, rfl⟩
 rw [hv, ← hmm] at c0
 rw [hv, ← hmm] at hown
 rw [← hmm] at HSF hm
 have HV : Hid (vf = .slice ao m cap) := by show _ = _; rw [hv, hmm]
 have HM : Hid (m = z.fr.length) := hmm
 clear hv hmm
 have HG0 : Hid (z.fr.length = 0 → putS N z c = (decide (c.toNat < N), { z with fr := z.fr ++ [c] })) := fun q => by unfold putS; rw [if_pos q]
 have HG1 : Hid (z.fr.length = 1 → putS N z c = (decide (1 ≤ c.toNat ∧ c.toNat ≤ 20), { z with fr := z.fr ++ [c] })) := fun q => by unfold putS; rw [if_neg (by omega), if_pos q]
 have HG2 : Hid (2 ≤ z.fr.length → putS N z c = if z.fr.length + 1 = 2 + (z.fr.getD 1 0).toNat then (true, ⟨[], fun k => if k = (z.fr.getD 0 0).toNat then z.ch k ++ (z.fr ++ [c]).drop 2 else z.ch k⟩) else (true, { z with fr := z.fr ++ [c] })) := fun q => by unfold putS; rw [if_neg (by omega), if_neg (by omega)]
 generalize putS N z c = r at HG0 HG1 HG2 ⊢
 have hc2 : c.toNat < 256 := c.toNat_lt
 have hwc : wrap64 (c.toNat : Int) = (c.toNat : Int) := IntWalk.wrap64_in _ ⟨by omega, by omega⟩
 clear hc2
 go_enter Tryz.func116, Tryz.ntmps116
 go_wp2_with (first | (at_builtin; refine wpList_append1s w rfl (.tmp 9) (.tmp 11) 80 rfl B 5 (.int .u8 0) 1 Tryz.underlying80 Tryz.info5 rfl (.slice ao m cap) m _ (.int .u8 (c.toNat : Int)) rfl rfl w.heap.size rfl rfl hown hB (by unfold maxLen; omega) (by omega) ?_) | fail)
 intro g' cap' w2 ho hd hg
 obtain ⟨e0, e1, h3, k3⟩ := HSF.out w2 _ g' cap' ho (by rw [HV.out]; exact hd) hg
 rw [HV.out] at e0
 clear HSF ho hd hg hown c0 f0
 have d0 := h3.c0
 rcases (by omega : m = 0 ∨ m = 1 ∨ 2 ≤ m) with hm0 | hm0 | hm0
 ·
  have hr := HG0.out (by rw [← HM.out, hm0])
  have n1 : ((m : Int) + 1 == 1) = true := by rw [beq_iff_eq]; omega
  have HQ : Hid (_) := hr
  clear HG0 HG1 HG2 hm0 hr
  go_wp2_with fail
  refine (has_any _ B gx o T n _ gc N fc _ v _ _ (c.toNat : Int) _ h3).mono ?_
  rintro e w4 ⟨rfl, rfl⟩
  go_wp2_with fail
  go_ret
  rw [HQ.out]
  exact ⟨_, fc, v, rfl, h3, k3⟩
 ·
  have hr := HG1.out (by rw [← HM.out, hm0])
  have n1 : ((m : Int) + 1 == 1) = false := by rw [beq_eq_false_iff_ne]; omega
  have n2 : ((m : Int) + 1 == 2) = true := by rw [beq_iff_eq]; omega
  clear HG0 HG1 HG2 hm0
  by_cases hc : 1 ≤ c.toNat
  ·
   have dc : decide ((1 : Int) ≤ (c.toNat : Int)) = true := by rw [decide_eq_true_iff]; omega
   have HQ : Hid (r = (decide (((c.toNat : Nat) : Int) ≤ 20), { z with fr := z.fr ++ [c] })) := by
    show _ = _; rw [hr]; congr 1; simp [hc]; omega
   clear hr hc
   go_wp2_with fail
   go_ret
   rw [HQ.out]
   exact ⟨_, fc, v, rfl, h3, k3⟩
  ·
   have dc : decide ((1 : Int) ≤ (c.toNat : Int)) = false := by rw [decide_eq_false_iff_not]; omega
   have HQ : Hid (r = (false, { z with fr := z.fr ++ [c] })) := by
    show _ = _; rw [hr]; congr 1; simp [hc]
   clear hr hc
   go_wp2_with fail
   go_ret
   rw [HQ.out]
   exact ⟨_, fc, v, rfl, h3, k3⟩
 ·
  have hr := HG2.out (by rw [← HM.out]; omega)
  clear HG0 HG1 HG2
  have ha := hw.a (by rw [← HM.out]; omega)
  have hb := hw.b (by rw [← HM.out]; omega)
  have hl1 : (1 : Nat) < z.fr.length := by rw [← HM.out]; omega
  have x1 := h3.own.cells (g := g') rfl 1 _ (byteVals_get _ 1 (by rw [List.length_append]; omega))
  have x0 := h3.own.cells (g := g') rfl 0 _ (byteVals_get _ 0 (by rw [List.length_append]; omega))
  rw [getD_app (by omega), addr_add0] at x1 x0
  obtain ⟨p1, hp1⟩ : ∃ p, p = (z.fr.getD 1 0).toNat := ⟨_, rfl⟩
  obtain ⟨p0, hp0⟩ : ∃ p, p = (z.fr.getD 0 0).toNat := ⟨_, rfl⟩
  rw [← hp1] at x1 hb hr
  rw [← hp0] at x0 ha hr
  rw [← HM.out] at hb hr
  have hw1 : wrap64 (p1 : Int) = (p1 : Int) := IntWalk.wrap64_in _ ⟨by omega, by omega⟩
  have HP0 : Hid (p0 = (z.fr.getD 0 0).toNat) := hp0
  clear hp1 hp0 hl1
  by_cases hq : m + 1 = 2 + p1
  ·
   rw [if_pos hq] at hr
   have dq : ((m : Int) + 1 == wrap64 (2 + (p1 : Int))) = true := by rw [IntWalk.wrap64_in _ ⟨by omega, by omega⟩, beq_iff_eq]; omega
   have d1 := h3.c1
   have g1 : (1 : Int) < (m : Int) + 1 := by omega
   have n1 : ((m : Int) + 1 == 1) = false := by rw [beq_eq_false_iff_ne]; omega
   have n2 : ((m : Int) + 1 == 2) = false := by rw [beq_eq_false_iff_ne]; omega
   have haI : (p0 : Int) < (N : Int) := by omega
   have g2 : (2 : Int) ≤ (m : Int) + 1 := by omega
   have hown3 := h3.own
   have hlen : (z.fr ++ [c]).length = m + 1 := by rw [List.length_append, ← HM.out]; rfl
   have hown3' : (w2.setCell ⟨gx, o, none⟩ (.slice (some ⟨g', 0, none⟩) (m + 1) cap')).ownsRow B 5 1 (.slice (some ⟨g', 0, none⟩) (m + 1) cap') (m + 1) (byteVals (z.fr ++ [c])) := by
    have e : ({ z with fr := z.fr ++ [c] } : Sp).fr.length = m + 1 := hlen
    rw [e] at hown3
    exact hown3
   have hcap := owns_cap hown3'
   have hc2 : ¬ cap' = 2 := by omega
   obtain ⟨off, lr, M, hbf, hz, hdr, hml⟩ := h3.buf p0 ha
   have hxl : ((z.fr ++ [c]).drop 2).length = m - 1 := by rw [List.length_drop, hlen]; omega
   have hcells : ∀ j (hj : j < ((z.fr ++ [c]).drop 2).length), (w2.setCell ⟨gx, o, none⟩ (.slice (some ⟨g', 0, none⟩) (m + 1) cap')).cell? ((⟨g', 2, none⟩ : Addr).add j) = some (.int .u8 (((z.fr ++ [c]).drop 2)[j].toNat : Int)) := fun j hj => by
    have hj2 : 2 + j < (z.fr ++ [c]).length := by rw [hxl] at hj; rw [hlen]; omega
    have cc := hown3'.cells (g := g') rfl (2 + j) _ (byteVals_get (z.fr ++ [c]) (2 + j) hj2)
    have e2 : (z.fr ++ [c]).getD (2 + j) 0 = ((z.fr ++ [c]).drop 2)[j] := by
     rw [List.getD_eq_getElem?_getD, List.getElem?_eq_getElem hj2, List.getElem_drop]; rfl
    rw [e2, addr_add0] at cc
    rw [Addr.add_mid]
    exact cc
   have hg'c : g' ≠ gc := fun e => h3.fc0 (by rw [← e]; rfl)
   have hg'v : (v p0).ownBlock ≠ some g' := fun e => h3.fv p0 ha g' rfl e
   have hB3 : B ≤ (w2.setCell ⟨gx, o, none⟩ (.slice (some ⟨g', 0, none⟩) (m + 1) cap')).heap.size := Nat.le_trans hB k3.size
   have HWR : Hid (_) := bwrite_as B gc (3 * p0) 93 (3 * N) fc (v p0) off lr M ((z.fr ++ [c]).drop 2) ⟨g', 2, none⟩ (p0 * 3) (m - 1) (cap' - 2) _ (by omega) hxl (hbf.drewN 1) hz hB3 (by rw [hxl]; omega) (by rw [hxl]; have : M.length + (z.fr ++ [c]).length ≤ t + 1 := hml; omega) hcells hg'c hg'v
   have HR : Hid (r = (true, ⟨[], fun k => if k = p0 then z.ch k ++ (z.fr ++ [c]).drop 2 else z.ch k⟩)) := hr
   have HX : Hid (∀ w4 v' off' lr' M', BufP B ((w2.setCell ⟨gx, o, none⟩ (.slice (some ⟨g', 0, none⟩) (m + 1) cap')).drewN 1) gc (3 * p0) 93 (3 * N) fc (v p0) w4 v' off' lr' M' → M'.drop off' = M.drop off ++ (z.fr ++ [c]).drop 2 → M'.length ≤ M.length + ((z.fr ++ [c]).drop 2).length → M' ≠ [] → w4.cell? ⟨gx, o, none⟩ = some (.slice (some ⟨g', 0, none⟩) (m + 1) cap') ∧ w4.frozen? ⟨gx, o, none⟩ = false ∧ PutP U B w gx o T n f gc N t r (.returned (.bool true)) (w4.setCell ⟨gx, o, none⟩ (.slice (some ⟨g', 0, none⟩) 0 cap'))) := fun w4 v' off' lr' M' q1 q2 q3 q4 => by
    rw [hr]
    exact put_fin (h3.drewN 1) (k3.drewN 1) hlen ha hdr hml (by rw [hxl]; omega) q1 q2 q3 q4
   clear hq hb hr hown3 hown3' hbf hz hcells hxl hdr hml h3 k3 hlen
   go_wp2_with fail
   generalize w2.setCell ⟨gx, o, none⟩ (.slice (some ⟨g', 0, none⟩) (m + 1) cap') = W at d0 d1 x0 x1 HX HWR hB3 ⊢
   clear e0 e1 n1 n2 dq x1 hw1 hwc h hw
   go_region_with (go_at_call 132; refine Calls.mono HWR.out ?_; rintro e w4 ⟨v', off', lr', M', rfl, hbp, hdr', hml2, hne⟩)
   all_goals
    obtain ⟨y0, y1, P⟩ := HX.out w4 v' off' lr' M' hbp hdr' hml2 hne
    clear HX HWR d0 d1 x0 hbp hdr' hml2 hne
    go_wp2
    go_ret
    exact P
  ·
   rw [if_neg hq] at hr
   have dq : ((m : Int) + 1 == wrap64 (2 + (p1 : Int))) = false := by rw [IntWalk.wrap64_in _ ⟨by omega, by omega⟩, beq_eq_false_iff_ne]; omega
   have g1 : (1 : Int) < (m : Int) + 1 := by omega
   have n1 : ((m : Int) + 1 == 1) = false := by rw [beq_eq_false_iff_ne]; omega
   have n2 : ((m : Int) + 1 == 2) = false := by rw [beq_eq_false_iff_ne]; omega
   clear hq hb
   go_wp2_with fail
   go_ret
   rw [hr]
   exact ⟨_, fc, v, rfl, h3, k3⟩
/- The frames' sorter: Take. -/
def takeS (N : Nat) : Sp → List UInt8 → Bool × Sp
 | z, [] => (true, z)
 | z, c :: l => if (putS N z c).1 = true then takeS N (putS N z c).2 l else (false, (putS N z c).2)
theorem takeS_app (N : Nat) : ∀ (a b : List UInt8) (z : Sp), takeS N z (a ++ b) = if (takeS N z a).1 = true then takeS N (takeS N z a).2 b else takeS N z a
 | [], b, z => by simp [takeS]
 |
  c :: a, b, z => by
  by_cases h : (putS N z c).1 = true
  · simp only [List.cons_append, takeS, h, if_true]; exact takeS_app N a b _
  · simp [takeS, h]
theorem takeS_snoc {N : Nat} {z z' : Sp} {l : List UInt8} (h : takeS N z l = (true, z')) (c : UInt8) : takeS N z (l ++ [c]) = putS N z' c := by
 rw [takeS_app, h]
 simp only [if_true, takeS]
 by_cases q : (putS N z' c).1 = true
 · rw [if_pos q]; exact Prod.ext q.symm rfl
 · rw [if_neg q]; exact Prod.ext (by simpa using q) rfl
theorem takeS_stop {N : Nat} {z z' : Sp} {l : List UInt8} (h : takeS N z l = (false, z')) (r : List UInt8) : takeS N z (l ++ r) = (false, z') := by
 rw [takeS_app, h]
 simp
theorem take_step (S : ByteArray) (k : Nat) (hk : k < S.size) : S.data.toList.take (k + 1) = S.data.toList.take k ++ [S.data.toList.getD k 0] := by
 have hl : k < S.data.toList.length := by rw [Array.length_toList]; exact hk
 rw [List.take_add_one, List.getD_eq_getElem?_getD, List.getElem?_eq_getElem hl]
 rfl
/-- The sorter behind k bytes. -/
def TakeR (U : Nat → Prop) (B : Nat) (w : World) (gx o : Nat) (T : TypeId) (n : Nat) (f : Nat → Value) (gc N t : Nat) (z : Sp) (l : List UInt8) (w' : World) : Prop :=
 ∃ vf' fc' v' z', takeS N z l = (true, z') ∧ Wf N z' ∧ So (SN U w.heap.size) B w' gx o T n (upd1 f o vf') gc N fc' vf' v' (t + l.length) z' ∧ Kq w w' gx U
def TakeP (U : Nat → Prop) (B : Nat) (w : World) (gx o : Nat) (T : TypeId) (n : Nat) (f : Nat → Value) (gc N t : Nat) (r : Bool × Sp) (e : Ending) (w' : World) : Prop :=
 ∃ vf' fc' v', e = .returned (.bool r.1) ∧ So (SN U w.heap.size) B w' gx o T n (upd1 f o vf') gc N fc' vf' v' t r.2 ∧ Kq w w' gx U
theorem So.more {U : Nat → Prop} {B : Nat} {w : World} {gx o : Nat} {T : TypeId} {n : Nat} {f : Nat → Value} {gc N : Nat} {fc : Nat → Value} {vf : Value} {v : Nat → Value} {t t' : Nat} {z : Sp} (h : So U B w gx o T n f gc N fc vf v t z) (ht : t ≤ t') : So U B w gx o T n f gc N fc vf v t' z :=
 ⟨h.row, h.room, h.f0, h.f1, h.few, h.crow, h.own, Nat.le_trans h.frt ht, fun c hc => by
  obtain ⟨off, lr, M, k1, k2, k3, k4⟩ := h.buf c hc
  exact ⟨off, lr, M, k1, k2, k3, Nat.le_trans k4 ht⟩, h.inU, h.noU, h.fc0, h.fv, h.apart⟩
/-- One byte more. -/
theorem take_one {U : Nat → Prop} {B : Nat} {w w1 w2 : World} {gx o : Nat} {T : TypeId} {n : Nat} {f : Nat → Value} {gc N t : Nat} {z z1 : Sp} {l : List UInt8} {c : UInt8} {vf1 : Value} {e : Ending} (h0 : takeS N z l = (true, z1)) (k1 : Kq w w1 gx U) (hx : gx < w.heap.size) (hu : ¬ U gx)
 (h : PutP (SN U w.heap.size) B w1 gx o T n (upd1 f o vf1) gc N (t + l.length) (putS N z1 c) e w2) :
 e = .returned (.bool (takeS N z (l ++ [c])).1) ∧ ∃ vf' fc' v', So (SN U w.heap.size) B w2 gx o T n (upd1 f o vf') gc N fc' vf' v' (t + (l ++ [c]).length) (takeS N z (l ++ [c])).2 ∧ Kq w w2 gx U := by
 obtain ⟨vf', fc', v', he, h2, k2⟩ := h
 rw [takeS_snoc h0]
 refine ⟨he, vf', fc', v', ?_, k1.trans k2 (fun b hb q => ?_)⟩
 ·
  rw [upd1_upd1] at h2
  have := h2.reU (U' := SN U w.heap.size) (fun b hb => SN.low k1.size b hb) (fun q => by
   rcases q with q | q
   · exact hu q
   · omega)
  rw [List.length_append]
  exact this
 ·
  rcases q with q | q
  · exact q
  · omega
set_option maxRecDepth 4000 in
set_option maxHeartbeats 400000 in
theorem stake_any (U : Nat → Prop) (B gx o : Nat) (T : TypeId) (n : Nat) (f : Nat → Value) (gc N : Nat) (fc : Nat → Value) (vf : Value) (v : Nat → Value) (t : Nat) (z : Sp) (S : ByteArray) (w : World) (h : So U B w gx o T n f gc N fc vf v t z) (hB : B ≤ w.heap.size) (hw : Wf N z) (ht : t + S.size ≤ 1000000) :
 Calls Tryz.prog 92 #[.pointer (some ⟨gx, o, none⟩), .string S] w (TakeP U B w gx o T n f gc N (t + S.size) (takeS N z S.data.toList)) := by
 have hgx := h.row.lt
 have hux := h.noU
 have hfo : f = upd1 f o vf := by
  funext i
  unfold upd1
  by_cases e : i = o
  · subst e; rw [if_pos rfl, h.f0]
  · rw [if_neg e]
 have hlen : S.data.toList.length = S.size := Array.length_toList
 have H0 : TakeR U B w gx o T n f gc N t z (S.data.toList.take 0) w := ⟨vf, fc, v, z, rfl, hw, by
  rw [← hfo]
  exact (h.reU (fun b hb => Or.inl hb) (fun q => by
   rcases q with q | q
   · exact hux q
   · omega)).more (by omega), Kq.refl _ _ _⟩
 clear h hw hfo
 have hsz : S.size ≤ 1000000 := by omega
 have HST : Hid (∀ k, k < S.size → ∀ w1, TakeR U B w gx o T n f gc N t z (S.data.toList.take k) w1 → Calls Tryz.prog 116 #[.pointer (some ⟨gx, o, none⟩), .int .u8 ((S.data.toList.getD k 0).toNat : Int)] w1 fun e w2 => (∃ b, e = .returned (.bool b) ∧ (b = true → TakeR U B w gx o T n f gc N t z (S.data.toList.take (k + 1)) w2) ∧ (b = false → TakeP U B w gx o T n f gc N (t + S.size) (takeS N z S.data.toList) (.returned (.bool false)) w2))) := fun k hk w1 h1 => by
  obtain ⟨vf1, fc1, v1, z1, h0, hw1, hs1, k1⟩ := h1
  have hl : (S.data.toList.take k).length = k := by rw [List.length_take]; omega
  refine (sput_any _ B gx o T n _ gc N fc1 vf1 v1 _ z1 (S.data.toList.getD k 0) w1 hs1 (Nat.le_trans hB k1.size) hw1 (by rw [hl]; omega)).mono ?_
  intro e w2 hp
  have hwf : (putS N z1 (S.data.toList.getD k 0)).1 = true → Wf N (putS N z1 (S.data.toList.getD k 0)).2 := fun q => hw1.put q
  have esn := takeS_snoc h0 (S.data.toList.getD k 0)
  obtain ⟨he, vf', fc', v', h2, k2⟩ := take_one h0 k1 hgx hux hp
  rw [esn] at he h2
  refine ⟨_, he, fun q => ⟨vf', fc', v', (putS N z1 (S.data.toList.getD k 0)).2, ?_, hwf q, ?_, k2⟩, fun q => ⟨vf', fc', v', ?_, ?_, k2⟩⟩
  · rw [take_step S k hk, esn]; exact Prod.ext q rfl
  · rw [take_step S k hk]; exact h2
  all_goals
   have ef : takeS N z (S.data.toList.take k ++ [S.data.toList.getD k 0]) = (false, (putS N z1 (S.data.toList.getD k 0)).2) := by rw [esn]; exact Prod.ext q rfl
   have ea : S.data.toList = S.data.toList.take k ++ [S.data.toList.getD k 0] ++ S.data.toList.drop (k + 1) := by rw [← take_step S k hk, List.take_append_drop]
   have eb := takeS_stop ef (S.data.toList.drop (k + 1))
   rw [← ea] at eb
   rw [eb]
  exact h2.more (by rw [List.length_append, hl]; simp; omega)
 have HEN : Hid (∀ w1, TakeR U B w gx o T n f gc N t z (S.data.toList.take S.size) w1 → TakeP U B w gx o T n f gc N (t + S.size) (takeS N z S.data.toList) (.returned (.bool true)) w1) := fun w1 h1 => by
  obtain ⟨vf1, fc1, v1, z1, h0, _, hs1, k1⟩ := h1
  rw [← hlen, List.take_length] at h0 hs1
  rw [h0]
  exact ⟨vf1, fc1, v1, rfl, by rw [← hlen]; exact hs1, k1⟩
 generalize takeS N z S.data.toList = r at HST HEN ⊢
 go_enter Tryz.func92, Tryz.ntmps92
 go_wp2_with fail
 go_loopw [8] (fun i wr => ∃ k : Nat, k ≤ S.size ∧ i = .int .i64 (k : Nat) ∧ TakeR U B w gx o T n f gc N t z (S.data.toList.take k) wr) (fun i _ => S.size - (intOf i).toNat)
 case atStart => exact ⟨0, Nat.zero_le _, rfl, H0⟩
 case round =>
  obtain ⟨k, hk, rfl, hT⟩ := hrel
  by_cases hlt : k < S.size
  ·
   have HC : Hid (_) := HST.out k hlt _ hT
   have i1 : ∀ wq, _ := fun wq => index_run S k (k : Int) rfl hlt wq
   clear hT H0 HST HEN
   have hltI : (k : Int) < (S.size : Int) := by omega
   generalize S.data.toList.getD k 0 = c at HC i1
   go_wp2_with fail
   refine Calls.mono HC.out ?_
   rintro e w2 ⟨b, rfl, hb1, hb0⟩
   cases b with
   |
    true =>
    have hR := hb1 rfl
    clear hb1 hb0 HC i1
    go_wp2
    go_roundw
    case rel => exact ⟨k + 1, by omega, by go_num, hR⟩
    case measure => simp [intOf]; omega
   |
    false =>
    have P := hb0 rfl
    clear hb1 hb0 HC i1
    go_wp2
    go_ret
    exact P
  ·
   obtain rfl : k = S.size := by omega
   have P := HEN.out _ hT
   clear hT H0 HST HEN
   go_wp2
   go_ret
   exact P
/- The frames' sorter: Within, Read, NewSorter. -/
theorem within_any (U : Nat → Prop) (B gx o : Nat) (T : TypeId) (n : Nat) (f : Nat → Value) (gc N : Nat) (fc : Nat → Value) (vf : Value) (v : Nat → Value) (t : Nat) (z : Sp) (w : World) (h : So U B w gx o T n f gc N fc vf v t z) :
 Calls Tryz.prog 93 #[.pointer (some ⟨gx, o, none⟩)] w fun e w' => e = .returned (.bool (decide (0 < z.fr.length))) ∧ w' = w := by
 have c0 := h.c0
 obtain ⟨ao, cap, hv⟩ : ∃ ao cap, vf = .slice ao z.fr.length cap := by
  obtain ⟨_, q⟩ := h.own
  rcases q with ⟨q, q0⟩ | ⟨g, cap, cur, q, _⟩
  · exact ⟨none, 0, by rw [q, q0]⟩
  · exact ⟨_, _, q⟩
 rw [hv] at c0
 clear h hv
 generalize z.fr.length = m at c0 ⊢
 go_enter Tryz.func93, Tryz.ntmps93
 go_wp2
 go_ret
 exact ⟨by simp, rfl⟩
def ReadP (U : Nat → Prop) (B : Nat) (w : World) (gx o : Nat) (T : TypeId) (n : Nat) (f : Nat → Value) (gc N t : Nat) (vf : Value) (z : Sp) (c m : Nat) (e : Ending) (w' : World) : Prop :=
 ∃ fc' v', e = .returned (.string ⟨((z.ch c).take m).toArray⟩) ∧ So (SN U w.heap.size) B w' gx o T n f gc N fc' vf v' t { z with ch := fun d => if d = c then (z.ch c).drop m else z.ch d } ∧ Kq w w' gx U
theorem next_as (B b o : Nat) (T : TypeId) (n : Nat) (f : Nat → Value) (v : Value) (off : Nat) (lr : Int) (M : List UInt8) (most k oo : Nat) (mm : Int) (w : World) (hoo : oo = o) (hmm : mm = (most : Int)) (h : Bf B w b o T n f v off lr M) (hM : M.length ≤ 140737488400000) (hm : most ≤ 9223372036854775807) (hk : k = min most (M.length - off)) :
 Calls Tryz.prog 36 #[.pointer (some ⟨b, oo, none⟩), .int .i64 mm] w (NextP B w b o T n f v off M k) := by
 subst hoo hmm
 exact next_any B b oo T n f v off lr M most k w h hM hm hk
set_option maxRecDepth 4000 in
set_option maxHeartbeats 400000 in
theorem sread_any (U : Nat → Prop) (B gx o : Nat) (T : TypeId) (n : Nat) (f : Nat → Value) (gc N : Nat) (fc : Nat → Value) (vf : Value) (v : Nat → Value) (t : Nat) (z : Sp) (c : Nat) (most : Int) (w : World) (h : So U B w gx o T n f gc N fc vf v t z) (hc : c < N) (ht : t ≤ 1000000) (hm : most ≤ 9223372036854775807) (hm0 : -9223372036854775808 ≤ most) :
 Calls Tryz.prog 67 #[.pointer (some ⟨gx, o, none⟩), .int .i64 (c : Int), .int .i64 most] w (ReadP U B w gx o T n f gc N t vf z c most.toNat) := by
 have c1 := h.c1
 obtain ⟨off, lr, M, hbf, hz, hd, hml⟩ := h.buf c hc
 have hle := hbf.le
 obtain ⟨mx, hmx⟩ : ∃ mx, mx = most.toNat := ⟨_, rfl⟩
 have HF : Hid (∀ e w', NextP B w gc (3 * c) 93 (3 * N) fc (v c) off M (min mx (M.length - off)) e w' → ∃ vs, e = .returned vs ∧ (∀ q, (convert 80 9 vs).run Tryz.prog (w'.drewN q) = .ok (.string ⟨((z.ch c).take mx).toArray⟩) (w'.drewN q)) ∧ ∀ q, ReadP U B w gx o T n f gc N t vf z c mx (.returned (.string ⟨((z.ch c).take mx).toArray⟩)) (w'.drewN q)) := fun e w' hp => by
  obtain ⟨vs, lr', he, hb, hcv⟩ := hp
  have hlz : (z.ch c).length = M.length - off := by rw [← hd, List.length_drop]
  have e1 : (M.drop off).take (min mx (M.length - off)) = (z.ch c).take mx := by
   rw [hd, ← hlz, ← List.take_take, List.take_length]
  have e2 : M.drop (off + min mx (M.length - off)) = (z.ch c).drop mx := by
   rw [← List.drop_drop, hd, ← hlz]
   rcases Nat.le_total mx (z.ch c).length with q | q
   · rw [Nat.min_eq_left q]
   · rw [Nat.min_eq_right q, List.drop_length, List.drop_of_length_le q]
  rw [e1] at hcv
  refine ⟨vs, he, hcv, fun q => ?_⟩
  obtain ⟨h5, k5⟩ := h.setBuf (t' := t) c hc _ _ _ _ hb hz (Nat.le_refl _) hml
  rw [e2] at h5
  exact ⟨_, _, rfl, h5.drewN q, k5.drewN q⟩
 have hNI : (c : Int) < (N : Int) := by omega
 have HN : Hid (∀ mm : Int, mm = (mx : Int) → Calls Tryz.prog 36 #[.pointer (some ⟨gc, c * 3, none⟩), .int .i64 mm] w (NextP B w gc (3 * c) 93 (3 * N) fc (v c) off M (min mx (M.length - off)))) := fun mm hmm => next_as B gc (3 * c) 93 (3 * N) fc (v c) off lr M mx _ (c * 3) mm w (by omega) hmm hbf (by omega) (by omega) rfl
 rw [← hmx]
 have HM : Hid (mx = most.toNat) := hmx
 clear hbf hz hd hml h hle hmx
 go_enter Tryz.func67, Tryz.ntmps67
 go_wp2_with fail
 all_goals
  refine Calls.mono (HN.out _ (by have := HM.out; omega)) ?_
  intro e w' hp
  obtain ⟨vs, rfl, hcv, P⟩ := HF.out _ _ hp
  have hc0 : (convert 80 9 vs).run Tryz.prog w' = .ok (.string ⟨((z.ch c).take mx).toArray⟩) w' := hcv 0
  have P0 : ReadP U B w gx o T n f gc N t vf z c mx (.returned (.string ⟨((z.ch c).take mx).toArray⟩)) w' := P 0
  clear hcv P hp HF HN HM
  go_wp2
  go_ret
  exact P0
/- The frames' sorter: NewSorter. -/
def bufZ : Array Value := #[.slice none 0 0, .int .i64 0, .int .i8 0]
/-- The cells of new buffers. -/
def bz (i : Nat) : Value := if i % 3 = 0 then .slice none 0 0 else if i % 3 = 1 then .int .i64 0 else .int .i8 0
theorem bufZ_get (i : Nat) : bufZ[i % 3]! = bz i := by
 unfold bz
 rcases (by omega : i % 3 = 0 ∨ i % 3 = 1 ∨ i % 3 = 2) with e | e | e <;> rw [e] <;> rfl
theorem make_bufs (N : Nat) (hN : N ≤ 8) (W : World) : (Instr.makeSlice 84 (.int .i64 (N : Int)) (.int .i64 (N : Int))).run Tryz.prog W = .ok (.slice (some ⟨W.heap.size, 0, none⟩) N N) (W.alloc (.cells (madeCells bufZ (3 * N)) 93)) := by
 obtain ⟨i0, hi0, hz0, hs0, hby⟩ : ∃ i0, Tryz.prog.info? 93 = some i0 ∧ i0.zero = some (.agg bufZ) ∧ i0.size = 3 ∧ i0.bytes = 40 := info_parts (by kernel_rfl : (Tryz.prog.info? 93).map (fun i => (i.zero, i.size, i.bytes)) = some (some (.agg bufZ), 3, 40))
 have h := run_make (P := Tryz.prog) W 84 93 i0 (.agg bufZ) Tryz.underlying84 hi0 hz0 .i64 .i64 (N : Int) (N : Int) (by omega) (by omega) (by rw [hby]; omega) (by omega)
 have e : (((N : Int)).toNat * i0.size) = 3 * N := by rw [hs0]; omega
 rw [e] at h
 simpa [Value.cells] using h
theorem row_bufs (w : World) (N : Nat) : (w.alloc (.cells (madeCells bufZ (3 * N)) 93)).rowIs w.heap.size 93 (3 * N) bz :=
 ⟨_, heap_alloc_last _ _, size_madeCells _ _, fun i hi => by
  have e := bufZ_get i
  simp only [madeCells]
  rw [Array.getElem?_map, Array.getElem?_range, if_pos hi]
  show some (bufZ[i % bufZ.size]!) = _
  rw [← e]; rfl⟩
set_option maxRecDepth 4000 in
set_option maxHeartbeats 400000 in
theorem newSorter_any (N : Nat) (w : World) (hN : N ≤ 8) :
 Calls Tryz.prog 52 #[.int .i64 (N : Int)] w fun e w' => ∃ gc, e = .returned (.agg #[.slice none 0 0, .slice (some ⟨gc, 0, none⟩) N N]) ∧ w.heap.size ≤ gc ∧ w'.rowIs gc 93 (3 * N) bz ∧ Below w.heap.size w w' := by
 have hmk := make_bufs N hN
 have hrow := fun W => row_bufs W N
 generalize madeCells bufZ (3 * N) = Mz at hmk hrow
 go_enter Tryz.func52, Tryz.ntmps52
 go_wp2_with fail
 have hne : ((w.alloc (.cells #[.slice none 0 0, .slice (some ⟨w.heap.size + 1, 0, none⟩) N N] 86)).alloc (.cells Mz 93)).heap[w.heap.size]? = some (.cells #[.slice none 0 0, .slice (some ⟨w.heap.size + 1, 0, none⟩) N N] 86 (0, 0)) :=
  (Below.heap_alloc _ _ _ (by simp)).trans (heap_alloc_last w _)
 refine bodyPost_ret (v := .agg #[.slice none 0 0, .slice (some ⟨w.heap.size + 1, 0, none⟩) N N]) (results_cell_row Tryz.results52 _ _ w.heap.size 86 _ (0, 0) _ rfl hne Tryz.underlying86 rfl (by kernel_rfl)) rfl ⟨w.heap.size + 1, rfl, by omega, ?_, ?_⟩
 ·
  have q := hrow (w.alloc (.cells #[.slice none 0 0, .slice (some ⟨w.heap.size + 1, 0, none⟩) N N] 86))
  have e : (w.alloc (.cells #[.slice none 0 0, .slice (some ⟨w.heap.size + 1, 0, none⟩) N N] 86)).heap.size = w.heap.size + 1 := by simp
  rw [e] at q
  exact q
 · exact ((Below.refl _ _).alloc (Nat.le_refl _) _).alloc (by simp) _
end Go.Proofs.YtecddphahiadlaaGreatDoor
