/- The program's pen in memory, and its bit. -/
import Derived.Test.YtnfghnolklhppaaPut
import Derived.Test.YtnfghnolklhppaaPenG
import Derived.BigRegion
import Derived.RegionTactic
import Derived.ChangeAlike
namespace Go.Proofs.Ytnfghnolklhppaa
open Go.RowKit

/-- The writer's block. -/
structure Pn (B : Nat) (w : World) (gx : Nat) (b : List Nat) (vs vd vb : Value) : Prop where
  le : B ≤ gx
  row : w.rowIs gx 78 4 (fun i => if i = 0 then vb else if i = 1 then .int .i64 (b.length % 8 : Nat) else if i = 2 then vs else vd)
  own : ∃ bs, PB bs b ∧ w.ownsRow B 5 1 vb bs.length (byteVals bs)
  ne : vb.ownBlock ≠ some gx

namespace Pn
variable {B : Nat} {w : World} {gx : Nat} {b : List Nat} {vs vd vb : Value}
theorem c0 (h : Pn B w gx b vs vd vb) : w.cell? ⟨gx, 0, none⟩ = some vb := by simpa using h.row.cell (i := 0) (by omega)
theorem c1 (h : Pn B w gx b vs vd vb) : w.cell? ⟨gx, 1, none⟩ = some (.int .i64 (b.length % 8 : Nat)) := by simpa using h.row.cell (i := 1) (by omega)
theorem c2 (h : Pn B w gx b vs vd vb) : w.cell? ⟨gx, 2, none⟩ = some vs := by simpa using h.row.cell (i := 2) (by omega)
theorem c3 (h : Pn B w gx b vs vd vb) : w.cell? ⟨gx, 3, none⟩ = some vd := by simpa using h.row.cell (i := 3) (by omega)
theorem fz (h : Pn B w gx b vs vd vb) (i : Nat) : w.frozen? ⟨gx, i, none⟩ = false := h.row.frozen i
theorem drewN (h : Pn B w gx b vs vd vb) (q : Nat) : Pn B (w.drewN q) gx b vs vd vb := ⟨h.le, h.row.of_block rfl, h.own, h.ne⟩
end Pn

/-- A call on the writer: its bits behind it, and the rest of memory. -/
def RunsP (B : Nat) (w w' : World) (gx : Nat) (b : List Nat) (vs vd vb : Value) : Prop :=
  ∃ vb', Pn B w' gx b vs vd vb' ∧ Kp w w' gx vb ∧ ∀ g, vb'.ownBlock = some g → vb.ownBlock = some g ∨ w.heap.size ≤ g

/-- Two bits of a byte, put together. -/
theorem or_u8 (a x r : Nat) (hr : r < 8) (ha : a < 2 ^ r) (hx : x < 2) : bits BinOp.or IntKind.u8 (a : Int) ((x * 2 ^ r : Nat) : Int) = ((a + x * 2 ^ r : Nat) : Int) := by
  have h2 : x * 2 ^ r < 256 ∧ a + x * 2 ^ r < 256 ∧ a < 256 := by
    rcases (by omega : r = 0 ∨ r = 1 ∨ r = 2 ∨ r = 3 ∨ r = 4 ∨ r = 5 ∨ r = 6 ∨ r = 7) with e | e | e | e | e | e | e | e <;> subst e <;> simp only [Nat.reducePow] at * <;> omega
  have h1 : ∀ k : Nat, k < 256 → (BitVec.ofInt 8 (k : Int)).toNat = k := fun k hk => by
    rw [BitVec.ofInt_natCast, BitVec.toNat_ofNat]; exact Nat.mod_eq_of_lt (by omega)
  show IntKind.u8.wrap ((BitVec.ofInt 8 (a : Int) ||| BitVec.ofInt 8 ((x * 2 ^ r : Nat) : Int)).toNat : Int) = _
  rw [BitVec.toNat_or, h1 a h2.2.2, h1 _ h2.1]
  have h3 : a ||| x * 2 ^ r = a + x * 2 ^ r := by
    rw [Nat.or_comm, Nat.add_comm, ← Nat.shiftLeft_eq, Nat.shiftLeft_add_eq_or_of_lt ha]
  rw [h3, IntKind.wrap_u8]
  omega

theorem one_ne : (1 = 0) = False := by simp
theorem shl_or (v x r : Nat) (hr : r < 8) (hv : v < 2 ^ r) (hx : x < 2) : bits BinOp.or IntKind.u8 (v : Int) (wrap64 ((x : Int) * 2 ^ r) % 256) = ((v + x * 2 ^ r : Nat) : Int) := by
  have h2 : x * 2 ^ r < 256 := by
    rcases (by omega : r = 0 ∨ r = 1 ∨ r = 2 ∨ r = 3 ∨ r = 4 ∨ r = 5 ∨ r = 6 ∨ r = 7) with e | e | e | e | e | e | e | e <;> subst e <;> simp only [Nat.reducePow] at * <;> omega
  have e : ((x : Int) * 2 ^ r) = ((x * 2 ^ r : Nat) : Int) := by simp
  have e2 : (((x * 2 ^ r : Nat) : Int)) % 256 = ((x * 2 ^ r : Nat) : Int) := by omega
  rw [e, IntWalk.wrap64_in _ ⟨by omega, by omega⟩, e2, or_u8 v x r hr hv hx]

theorem byteVals_set (l : List UInt8) (i : Nat) (c : UInt8) : (byteVals l).set i (.int .u8 (c.toNat : Int)) = byteVals (l.set i c) := by
  unfold byteVals; rw [List.map_set]
theorem byteVals_at (l : List UInt8) (j : Nat) (hj : j < l.length) : (byteVals l)[j]? = some (.int .u8 ((l.getD j 0).toNat : Int)) := by
  unfold byteVals
  rw [List.getElem?_map, List.getElem?_eq_getElem hj, List.getD_eq_getElem?_getD, List.getElem?_eq_getElem hj]
  rfl

/-- The writer, the next bit's byte begun. -/
structure PnO (B : Nat) (w : World) (gx : Nat) (b : List Nat) (vs vd : Value) (bs : List UInt8) (g cap : Nat) : Prop where
  le : B ≤ gx
  row : w.rowIs gx 78 4 (fun i => if i = 0 then .slice (some ⟨g, 0, none⟩) bs.length cap else if i = 1 then .int .i64 (b.length % 8 : Nat) else if i = 2 then vs else vd)
  own : w.ownsRow B 5 1 (.slice (some ⟨g, 0, none⟩) bs.length cap) bs.length (byteVals bs)
  po : PO bs b
  ne : gx ≠ g

namespace PnO
variable {B : Nat} {w : World} {gx : Nat} {b : List Nat} {vs vd : Value} {bs : List UInt8} {g cap : Nat}
theorem c0 (h : PnO B w gx b vs vd bs g cap) : w.cell? ⟨gx, 0, none⟩ = some (.slice (some ⟨g, 0, none⟩) bs.length cap) := by simpa using h.row.cell (i := 0) (by omega)
theorem c1 (h : PnO B w gx b vs vd bs g cap) : w.cell? ⟨gx, 1, none⟩ = some (.int .i64 (b.length % 8 : Nat)) := by simpa using h.row.cell (i := 1) (by omega)
theorem last (h : PnO B w gx b vs vd bs g cap) {m : Nat} (hm : bs.length = m + 1) : w.cell? ⟨g, m, none⟩ = some (.int .u8 ((bs.getD m 0).toNat : Int)) := by
  rw [h.own.cellAt m (by omega), byteVals_at _ _ (by omega)]
theorem low (h : PnO B w gx b vs vd bs g cap) {m : Nat} (hm : bs.length = m + 1) : (bs.getD m 0).toNat < 2 ^ (b.length % 8) := by
  have hl := h.po.len
  rw [h.po.val m (by omega), show m = b.length / 8 from by omega]
  exact byteAt_low h.po.bits

/-- The bit is put in. -/
theorem put (h : PnO B w gx b vs vd bs g cap) {m x : Nat} (hm : bs.length = m + 1) (hx : x < 2) :
    Pn B (((w.setCell ⟨g, m, none⟩ (.int .u8 (((bs.getD m 0).toNat + x * 2 ^ (b.length % 8) : Nat) : Int))).drew).setCell ⟨gx, 1, none⟩ (.int .i64 ((b.length % 8 + 1) % 8 : Nat))) gx (b ++ [x]) vs vd (.slice (some ⟨g, 0, none⟩) bs.length cap) := by
  have hlow := h.low hm
  have h256 : (bs.getD m 0).toNat + x * 2 ^ (b.length % 8) < 256 := by
    have hr : b.length % 8 < 8 := by omega
    generalize b.length % 8 = r at hlow hr
    rcases (by omega : r = 0 ∨ r = 1 ∨ r = 2 ∨ r = 3 ∨ r = 4 ∨ r = 5 ∨ r = 6 ∨ r = 7) with e | e | e | e | e | e | e | e <;> subst e <;> simp only [Nat.reducePow] at * <;> omega
  obtain ⟨c, hc⟩ : ∃ c : UInt8, c.toNat = (bs.getD m 0).toNat + x * 2 ^ (b.length % 8) := ⟨UInt8.ofNat ((bs.getD m 0).toNat + x * 2 ^ (b.length % 8)), by rw [UInt8.toNat_ofNat']; omega⟩
  have hm1 : bs.length - 1 = m := by omega
  have hpb := h.po.put (c := c) hx (by rw [hm1]; exact hc)
  rw [hm1] at hpb
  rw [← hc]
  have ho := (h.own.stored m (.int .u8 (c.toNat : Int))).1
  rw [byteVals_set] at ho
  refine ⟨h.le, ?_, ⟨bs.set m c, hpb, ?_⟩, fun e => h.ne (Option.some.inj e).symm⟩
  · refine (((h.row.setOther h.ne _).drew).set 1 _).congr (fun i _ => ?_)
    rw [List.length_append]
    show (if i = 1 then _ else _) = _
    by_cases e1 : i = 1
    · subst e1
      simp
    · rw [if_neg e1]
      by_cases e0 : i = 0
      · rw [if_pos e0, if_pos e0]
      · rw [if_neg e0, if_neg e0, if_neg e1, if_neg e1]
  · rw [List.length_set]
    obtain ⟨q1, q2⟩ := ho
    refine ⟨q1, ?_⟩
    rcases q2 with ⟨q2, _⟩ | ⟨g2, cap2, cur, hv, hb, hh, rr⟩
    · simp at q2
    · have e1 : g = g2 := by simp at hv; exact hv.1
      subst e1
      exact Or.inr ⟨g, cap2, cur, hv, hb, (Below.heap_setCell _ _ _ _ (fun e => h.ne e.symm)).trans hh, rr⟩
end PnO

/-- Behind an append of a nought the next bit's byte is begun. -/
theorem pn_more {B : Nat} {w w2 : World} {gx : Nat} {b : List Nat} {vs vd vb : Value} {bs : List UInt8} {o : Obj} {g' cap' : Nat} (h : Pn B w gx b vs vd vb) (hpb : PB bs b) (h0 : b.length % 8 = 0)
    (ho : w2.ownsRow B 5 1 (.slice (some ⟨g', 0, none⟩) (bs.length + 1) cap') (bs.length + 1) (byteVals bs ++ [.int .u8 0])) (hd : w.heap.size + 1 ≤ g' ∨ vb.ownBlock = some g') (hg : (w.alloc o).grownBy w2 (some g')) :
    w2.cell? ⟨gx, 0, none⟩ = some vb ∧ w2.frozen? ⟨gx, 0, none⟩ = false ∧
    PnO B (w2.setCell ⟨gx, 0, none⟩ (.slice (some ⟨g', 0, none⟩) (bs.length + 1) cap')) gx b vs vd (bs ++ [0]) g' cap' ∧ Kp w (w2.setCell ⟨gx, 0, none⟩ (.slice (some ⟨g', 0, none⟩) (bs.length + 1) cap')) gx vb ∧ (vb.ownBlock = some g' ∨ w.heap.size ≤ g') := by
  have hgl := h.row.lt
  have hne : gx ≠ g' := by
    intro e
    subst e
    rcases hd with hd | hd
    · omega
    · exact h.ne hd
  have hsz : (w.alloc o).heap.size = w.heap.size + 1 := by simp
  have hs2 := hg.size
  have blk : ∀ b, b < w.heap.size → b ≠ g' → w2.heap[b]? = w.heap[b]? := fun b hb hbn => (hg.block b (by omega) (by intro e; exact hbn (Option.some.inj e))).trans (Below.heap_alloc w o b hb)
  have hrow := h.row.of_block (blk gx hgl hne)
  have hbl : (bs ++ [0]).length = bs.length + 1 := by simp
  refine ⟨by simpa using hrow.cell (i := 0) (by omega), hrow.frozen 0, ⟨h.le, ?_, ?_, hpb.open0 h0, hne⟩, ⟨hg.os, hg.tape, hg.output, by simp [World.setCell]; omega, fun b hb hx hv => ?_⟩, ?_⟩
  · rw [hbl]
    exact (hrow.set 0 _).congr (fun i _ => by
      by_cases e0 : i = 0
      · rw [if_pos e0, if_pos e0]
      · rw [if_neg e0, if_neg e0, if_neg e0])
  · rw [hbl, byteVals_snoc]
    obtain ⟨q1, q2⟩ := ho
    refine ⟨q1, ?_⟩
    rcases q2 with ⟨q2, _⟩ | ⟨g, cap, cur, hv, hb, hh, r⟩
    · simp at q2
    · have e1 : g' = g := by simp at hv; exact hv.1
      subst e1
      exact Or.inr ⟨g', cap, cur, hv, hb, (Below.heap_setCell _ _ _ _ (fun e => hne e.symm)).trans hh, r⟩
  · rw [Below.heap_setCell _ _ _ _ hx]
    refine blk b hb (fun e => ?_)
    subst e
    rcases hd with hd | hd
    · omega
    · exact hv hd
  · rcases hd with hd | hd
    · exact Or.inr (by omega)
    · exact Or.inl hd

theorem Kp.put {w w1 : World} {gx g m : Nat} {vb v v1 : Value} (h : Kp w w1 gx vb) (hg : vb.ownBlock = some g ∨ w.heap.size ≤ g) : Kp w (((w1.setCell ⟨g, m, none⟩ v).drew).setCell ⟨gx, 1, none⟩ v1) gx vb := by
  refine ⟨h.os, h.tape, h.output, ?_, fun b hb hx hv => ?_⟩
  · have := h.size
    show w.heap.size ≤ (((w1.setCell ⟨g, m, none⟩ v)).setCell ⟨gx, 1, none⟩ v1).heap.size
    simp [World.setCell]
    omega
  · rw [Below.heap_setCell _ _ _ _ hx]
    show (w1.setCell ⟨g, m, none⟩ v).heap[b]? = _
    rw [Below.heap_setCell _ _ _ _ (fun e => ?_), h.block b hb hx hv]
    subst e
    rcases hg with hg | hg
    · exact hv hg
    · omega

set_option maxRecDepth 4000 in
set_option maxHeartbeats 1000000 in
theorem pbit_any (B gx x : Nat) (b : List Nat) (vs vd vb : Value) (w : World) (h : Pn B w gx b vs vd vb) (hB : B ≤ w.heap.size) (hl : b.length ≤ 1000000) (hx : x < 2) :
    Calls Try.prog 52 #[.pointer (some ⟨gx, 0, none⟩), .int .i64 (x : Int)] w fun e w' => e = .returned (.tuple #[]) ∧ RunsP B w w' gx (b ++ [x]) vs vd vb := by
  have c0 := h.c0
  have c1 := h.c1
  have f0 := h.fz 0
  obtain ⟨bs, hpb, hown⟩ := h.own
  have hlen := hpb.len
  by_cases h0 : b.length % 8 = 0
  · obtain ⟨ao, cap, hvb⟩ : ∃ ao cap, vb = .slice ao bs.length cap := by
      obtain ⟨_, q⟩ := hown
      rcases q with ⟨q, q0⟩ | ⟨g, cap, cur, q, _⟩
      · exact ⟨none, 0, by rw [q, q0]⟩
      · exact ⟨_, _, q⟩
    rw [hvb] at c0
    rw [h0] at c1
    obtain ⟨n, hn⟩ : ∃ n, n = bs.length := ⟨_, rfl⟩
    have hown2 := hown
    rw [hvb, ← hn] at hown2
    rw [← hn] at c0
    have HN : Hid (n = bs.length) := hn
    have hn6 : n ≤ 1000000 := by omega
    clear hn hlen
    go_enter Try.func52, Try.ntmps52
    go_wp2_with (first | (at_builtin; refine wpList_append1s w rfl (.tmp 13) (.tmp 14) 57 rfl B 5 (.int .u8 0) 1 Try.underlying57 Try.info5 rfl (.slice ao n cap) n _ (.int .u8 0) rfl rfl w.heap.size rfl rfl hown2 hB (by unfold maxLen; omega) (by omega) ?_) | fail)
    intro g' cap' w2 ho hd hg
    rw [HN.out] at ho
    have hd' : w.heap.size + 1 ≤ g' ∨ vb.ownBlock = some g' := by rw [hvb, ← HN.out]; exact hd
    obtain ⟨k2, k3, q, K, hgn⟩ := pn_more h hpb h0 ho hd' hg
    rw [hvb, ← HN.out] at k2
    rw [← HN.out] at q K
    clear ho hd hd' hg hown hown2 f0 c0 c1
    go_wp2
    obtain ⟨w3, hw3⟩ : ∃ w3, w3 = w2.setCell ⟨gx, 0, none⟩ (.slice (some ⟨g', 0, none⟩) (n + 1) cap') := ⟨_, rfl⟩
    rw [← hw3] at q K ⊢
    clear hw3 k2 k3
    obtain ⟨m, hm⟩ : ∃ m, (bs ++ [0]).length = m + 1 := ⟨bs.length, by simp⟩
    have hmb : m ≤ 1000000 := by simp at hm; have := HN.out; omega
    have hlow := q.low hm
    have PUT := q.put hm hx
    have d0 := q.c0
    have d1 := q.c1
    have d2 := q.last hm
    have g1 := q.row.frozen 1
    have g2 := q.own.frozenAt m
    have hqn := q.ne
    have KP : ∀ v v1, Kp w (((w3.setCell ⟨g', m, none⟩ v).drew).setCell ⟨gx, 1, none⟩ v1) gx vb := fun v v1 => K.put (m := m) (v := v) (v1 := v1) hgn
    have E1 := fun v => (q.row.setOther (a := ⟨g', m, none⟩) hqn v).drew
    obtain ⟨r, hr⟩ : ∃ r, r = b.length % 8 := ⟨_, rfl⟩
    have hr8 : r < 8 := by omega
    obtain ⟨v, hv⟩ : ∃ v, v = ((bs ++ [0]).getD m 0).toNat := ⟨_, rfl⟩
    obtain ⟨N, hN⟩ : ∃ N, N = ((bs ++ [0])).length := ⟨_, rfl⟩
    rw [← hN] at d0 PUT E1
    rw [← hr] at d1 PUT hlow E1
    rw [← hv] at d2 PUT hlow
    have hidx : (N : Int) - 1 = (m : Int) := by omega
    have hmn : m < N := by omega
    have hN6 : N ≤ 1000002 := by omega
    have HO : Hid (bits BinOp.or IntKind.u8 (v : Int) (wrap64 ((x : Int) * 2 ^ r) % 256) = ((v + x * 2 ^ r : Nat) : Int)) := shl_or v x r hr8 hlow hx
    have D1 := fun u => (E1 u).cell (i := 1) (by omega)
    have G1 := fun u => (E1 u).frozen 1
    have HG : Hid (_) := hgn
    clear hr hv hN q E1 hlow hm K hgn
    go_region
    rw [HO.out]
    have D1' := D1 (.int .u8 ((v + x * 2 ^ r : Nat) : Int))
    have G1' := G1 (.int .u8 ((v + x * 2 ^ r : Nat) : Int))
    have KP' := KP (.int .u8 ((v + x * 2 ^ r : Nat) : Int)) (.int .i64 ((r + 1) % 8 : Nat))
    simp only [one_ne, if_false, if_true] at D1'
    clear D1 G1 KP d0 d1 d2 g1 g2
    generalize (w3.setCell ⟨g', m, none⟩ (.int .u8 ((v + x * 2 ^ r : Nat) : Int))).drew = w4 at D1' G1' PUT KP' ⊢
    have HR : Hid (((r : Int) + 1) % 8 = (((r + 1) % 8 : Nat) : Int)) := by show _ = _; omega
    go_wp2
    go_end0
    rw [HR.out]
    exact ⟨rfl, _, PUT, KP', fun g2 e => by rw [← Option.some.inj e]; exact HG.out⟩
  · obtain ⟨m, hm⟩ : ∃ m, bs.length = m + 1 := ⟨bs.length - 1, by omega⟩
    obtain ⟨g, cap, hvb⟩ : ∃ g cap, vb = .slice (some ⟨g, 0, none⟩) bs.length cap := by
      obtain ⟨_, q⟩ := hown
      rcases q with ⟨q, q0⟩ | ⟨g, cap, cur, q, _⟩
      · omega
      · exact ⟨_, _, q⟩
    have q : PnO B w gx b vs vd bs g cap := ⟨h.le, by have := h.row; rw [hvb] at this; exact this, by rw [← hvb]; exact hown, hpb.open1 h0, by have := h.ne; rw [hvb] at this; exact fun e => this (by rw [e]; rfl)⟩
    have hgn : vb.ownBlock = some g ∨ w.heap.size ≤ g := Or.inl (by rw [hvb]; rfl)
    have K := Kp.refl w gx vb
    have HL : Hid (_) := hlen
    have hmb : m ≤ 1000000 := by omega
    clear hlen
    have hr0 : ((b.length % 8 : Nat) : Int) ≠ 0 := by omega
    go_enter Try.func52, Try.ntmps52
    go_wp2
    clear c0 c1 f0
    have hlow := q.low hm
    have PUT := q.put hm hx
    have d0 := q.c0
    have d1 := q.c1
    have d2 := q.last hm
    have g1 := q.row.frozen 1
    have g2 := q.own.frozenAt m
    have hqn := q.ne
    have KP : ∀ v v1, Kp w (((w.setCell ⟨g, m, none⟩ v).drew).setCell ⟨gx, 1, none⟩ v1) gx vb := fun v v1 => K.put (m := m) (v := v) (v1 := v1) hgn
    have E1 := fun v => (q.row.setOther (a := ⟨g, m, none⟩) hqn v).drew
    obtain ⟨r, hr⟩ : ∃ r, r = b.length % 8 := ⟨_, rfl⟩
    have hr8 : r < 8 := by omega
    obtain ⟨v, hv⟩ : ∃ v, v = (bs.getD m 0).toNat := ⟨_, rfl⟩
    obtain ⟨N, hN⟩ : ∃ N, N = (bs).length := ⟨_, rfl⟩
    rw [← hN] at d0 PUT E1
    rw [← hr] at d1 PUT hlow E1
    rw [← hv] at d2 PUT hlow
    have hidx : (N : Int) - 1 = (m : Int) := by omega
    have hmn : m < N := by omega
    have hN6 : N ≤ 1000002 := by omega
    have HO : Hid (bits BinOp.or IntKind.u8 (v : Int) (wrap64 ((x : Int) * 2 ^ r) % 256) = ((v + x * 2 ^ r : Nat) : Int)) := shl_or v x r hr8 hlow hx
    have D1 := fun u => (E1 u).cell (i := 1) (by omega)
    have G1 := fun u => (E1 u).frozen 1
    have HG : Hid (_) := hgn
    clear hr hv hN q E1 hlow hm K hgn
    go_region
    rw [HO.out]
    have D1' := D1 (.int .u8 ((v + x * 2 ^ r : Nat) : Int))
    have G1' := G1 (.int .u8 ((v + x * 2 ^ r : Nat) : Int))
    have KP' := KP (.int .u8 ((v + x * 2 ^ r : Nat) : Int)) (.int .i64 ((r + 1) % 8 : Nat))
    simp only [one_ne, if_false, if_true] at D1'
    clear D1 G1 KP d0 d1 d2 g1 g2
    generalize (w.setCell ⟨g, m, none⟩ (.int .u8 ((v + x * 2 ^ r : Nat) : Int))).drew = w4 at D1' G1' PUT KP' ⊢
    have HR : Hid (((r : Int) + 1) % 8 = (((r + 1) % 8 : Nat) : Int)) := by show _ = _; omega
    go_wp2
    go_end0
    rw [HR.out]
    exact ⟨rfl, _, PUT, KP', fun g2 e => by rw [← Option.some.inj e]; exact HG.out⟩

end Go.Proofs.Ytnfghnolklhppaa
