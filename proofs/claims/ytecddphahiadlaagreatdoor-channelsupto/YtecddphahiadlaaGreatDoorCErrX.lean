import Derived.Test.YtecddphahiadlaaGreatDoorCRelF
import Derived.Test.YtecddphahiadlaaGreatDoorCQrdW
import Derived.Test.YtecddphahiadlaaGreatDoorCRdrY
/- Channels: the statement's World in memory: whose block is whose. -/
namespace Go.Proofs.YtecddphahiadlaaGreatDoor
open Go.RowKit
/-- The blocks of an owner. -/
def Own (B : Nat) (col : Nat → Nat) (id : Nat) (w : World) (b : Nat) : Prop := B ≤ b ∧ b < w.heap.size ∧ col b = id
/-- What is made is the owner's. -/
def recol (col : Nat → Nat) (id : Nat) (w : World) (b : Nat) : Nat := if w.heap.size ≤ b then id else col b
theorem own_other {B : Nat} {col : Nat → Nat} {id id' : Nat} {w w' : World} (h : id' ≠ id) (hz : w.heap.size ≤ w'.heap.size) : Own B (recol col id w) id' w' = Own B col id' w := by
 funext b
 apply propext
 unfold Own recol
 constructor
 ·
  rintro ⟨h1, h2, h3⟩
  by_cases q : w.heap.size ≤ b
  · rw [if_pos q] at h3; exact absurd h3.symm h
  · rw [if_neg q] at h3; exact ⟨h1, by omega, h3⟩
 ·
  rintro ⟨h1, h2, h3⟩
  rw [if_neg (by omega)]
  exact ⟨h1, by omega, h3⟩
theorem own_self {B : Nat} {col : Nat → Nat} {id : Nat} {w w' : World} (hB : B ≤ w.heap.size) (hz : w.heap.size ≤ w'.heap.size) : WN (Own B col id w) w.heap.size w'.heap.size = Own B (recol col id w) id w' := by
 funext b
 apply propext
 unfold WN Own recol
 constructor
 ·
  rintro (⟨h1, h2, h3⟩ | ⟨h1, h2⟩)
  · rw [if_neg (by omega)]; exact ⟨h1, by omega, h3⟩
  · rw [if_pos h1]; exact ⟨by omega, h2, rfl⟩
 ·
  rintro ⟨h1, h2, h3⟩
  by_cases q : w.heap.size ≤ b
  · exact Or.inr ⟨q, h2⟩
  · rw [if_neg q] at h3; exact Or.inl ⟨h1, by omega, h3⟩
theorem MemV.wide {V V' : Nat → Prop} {w : World} {gv gu N : Nat} {Q : Nat → List UInt8} {k : Vk} (h : MemV V w gv gu N Q k) (hV : ∀ b, V b → V' b) (hl : ∀ b, V' b → b < w.heap.size) : MemV V' w gv gu N Q k :=
 ⟨h.row, h.waits, h.ne, h.few, ⟨hV _ h.inV.1, hV _ h.inV.2⟩, hl⟩
theorem MemQ.wide {V V' : Nat → Prop} {w : World} {gq gg N : Nat} {A : ByteArray} {d : Nat} {R : Nat → List UInt8} (h : MemQ V w gq gg N A d R) (hV : ∀ b, V b → V' b) (hl : ∀ b, V' b → b < w.heap.size) : MemQ V' w gq gg N A d R :=
 ⟨h.row, h.gone, h.ne, h.few, ⟨hV _ h.inV.1, hV _ h.inV.2⟩, hl⟩
/-- A writer and the document's: what each is. -/
structure We where
 gw : Nat
 gv : Nat
 gu : Nat
 N : Nat
 Q : Nat → List UInt8
 tk : Nat
 wd : Nat
 L : List UInt8
 n : Nat
 closed : Bool
 Qd : Nat → List UInt8
 k : Vk
 had : ByteArray
 may : Nat
/-- A reader and the document's. -/
structure Re where
 gr : Nat
 gq : Nat
 gg : Nat
 N : Nat
 A : ByteArray
 R : Nat → List UInt8
 Ad : ByteArray
 d : Nat
 Rd : Nat → List UInt8
/-- The pair i of writers in memory. -/
structure PairW (B : Nat) (col : Nat → Nat) (w : World) (i : Nat) (e : We) : Prop where
 prog : MemW (Own B col (10 + 4 * i) w) B w e.gw e.N e.Q e.tk e.wd e.L e.n e.closed
 doc : MemV (Own B col (11 + 4 * i) w) w e.gv e.gu e.N e.Qd e.k
/-- The pair i of readers in memory. -/
structure PairR (B : Nat) (col : Nat → Nat) (w : World) (i : Nat) (e : Re) : Prop where
 prog : MemR (Own B col (12 + 4 * i) w) B w e.gr e.N e.A e.R
 doc : MemQ (Own B col (13 + 4 * i) w) w e.gq e.gg e.N e.Ad e.d e.Rd
/-- A list of the World's, whose block is of the colour s. -/
structure Row (B : Nat) (col : Nat → Nat) (w : World) (s : Nat) (T : TypeId) (v : Value) (n : Nat) (xs : List Value) : Prop where
 own : w.ownsRow B T 1 v n xs
 col : ∀ g, v.ownBlock = some g → Own B col s w g
section
variable {B : Nat} {col : Nat → Nat} {w w' : World} {id : Nat}
theorem Kw.keeps (hk : Kw w w' (Own B col id w)) {id' : Nat} (h : id' ≠ id) (b : Nat) (hb : Own B col id' w b) : w'.heap[b]? = w.heap[b]? :=
 hk.block b hb.2.1 (fun q => h (by rw [← hb.2.2, ← q.2.2]))
theorem PairW.other {i : Nat} {e : We} (h : PairW B col w i e) (hk : Kw w w' (Own B col id w)) (h1 : 10 + 4 * i ≠ id) (h2 : 11 + 4 * i ≠ id) : PairW B (recol col id w) w' i e := by
 refine ⟨?_, ?_⟩
 ·
  rw [own_other h1 hk.size]
  exact h.prog.frame hk.size (fun b q => hk.keeps h1 b q)
 ·
  rw [own_other h2 hk.size]
  exact h.doc.frame hk.size (fun b q => hk.keeps h2 b q)
theorem PairR.other {i : Nat} {e : Re} (h : PairR B col w i e) (hk : Kw w w' (Own B col id w)) (h1 : 12 + 4 * i ≠ id) (h2 : 13 + 4 * i ≠ id) : PairR B (recol col id w) w' i e := by
 refine ⟨?_, ?_⟩
 ·
  rw [own_other h1 hk.size]
  exact h.prog.frame hk.size (fun b q => hk.keeps h1 b q)
 ·
  rw [own_other h2 hk.size]
  exact h.doc.frame hk.size (fun b q => hk.keeps h2 b q)
theorem Row.other {s : Nat} {T : TypeId} {v : Value} {n : Nat} {xs : List Value} (h : Row B col w s T v n xs) (hk : Kw w w' (Own B col id w)) (h1 : s ≠ id) : Row B (recol col id w) w' s T v n xs := by
 refine ⟨ownsRow_frame h.own (fun g e => hk.keeps h1 g (h.col g e)), fun g e => ?_⟩
 rw [own_other h1 hk.size]
 exact h.col g e
theorem own_same {id' b : Nat} (h : Own B col id' w b) (h1 : id' ≠ id) (hz : w.heap.size ≤ w'.heap.size) : Own B (recol col id w) id' w' b := by
 rw [own_other h1 hz]
 exact h
theorem own_keeps {b : Nat} (h : Own B col id w b) (hz : w.heap.size ≤ w'.heap.size) : Own B (recol col id w) id w' b := by
 obtain ⟨h1, h2, h3⟩ := h
 unfold Own recol
 rw [if_neg (by omega)]
 exact ⟨h1, by omega, h3⟩
end
/-- Of what the World's lists are. -/
def rowT (s : Nat) : TypeId := if s = 1 then 36 else if s = 2 then 66 else if s = 3 then 37 else if s = 4 then 106 else if s = 5 then 9 else 3
/-- The statement's World in memory: its lists x (1: the program's writers, 2: the document's, 3, 4: readers, 5: what was had, 6: how long it may be); writers WL, readers RL. -/
structure Wld (B : Nat) (col : Nat → Nat) (w : World) (gW : Nat) (f : Nat → Value) (x : Nat → List Value) (WL : List We) (RL : List Re) : Prop where
 row : w.rowIs gW 63 8 f
 own : Own B col 0 w gW
 rows : ∀ s, 1 ≤ s → s ≤ 6 → Row B col w s (rowT s) (f (s + 1)) (x s).length (x s)
 wr : ∀ i e, WL[i]? = some e → PairW B col w i e
 rd : ∀ i e, RL[i]? = some e → PairR B col w i e
 low : B ≤ w.heap.size
theorem set_cases {α : Type} {l : List α} {i k : Nat} {e' x : α} (h : (l.set i e')[k]? = some x) : (k = i ∧ x = e') ∨ (k ≠ i ∧ l[k]? = some x) := by
 rw [List.getElem?_set] at h
 by_cases q : i = k
 ·
  rw [if_pos q] at h
  split at h
  · exact Or.inl ⟨q.symm, (Option.some.inj h).symm⟩
  · simp at h
 ·
  rw [if_neg q] at h
  exact Or.inr ⟨fun e => q e.symm, h⟩
section
variable {B : Nat} {col : Nat → Nat} {w w' : World} {gW : Nat} {f : Nat → Value} {x : Nat → List Value} {WL : List We} {RL : List Re}
/-- Something new is made, or one of no pair goes on. -/
theorem Wld.other (h : Wld B col w gW f x WL RL) {id : Nat} (hk : Kw w w' (Own B col id w)) (h0 : 0 ≠ id) (h1 : ∀ s, 1 ≤ s → s ≤ 6 → s ≠ id) (h2 : ∀ i, i < WL.length → 10 + 4 * i ≠ id ∧ 11 + 4 * i ≠ id) (h3 : ∀ i, i < RL.length → 12 + 4 * i ≠ id ∧ 13 + 4 * i ≠ id) : Wld B (recol col id w) w' gW f x WL RL :=
 ⟨h.row.of_block (hk.keeps h0 gW h.own), own_same h.own h0 hk.size, fun s a b => (h.rows s a b).other hk (h1 s a b), fun i e he => (h.wr i e he).other hk (h2 i (List.getElem?_eq_some_iff.1 he).1).1 (h2 i (List.getElem?_eq_some_iff.1 he).1).2, fun i e he => (h.rd i e he).other hk (h3 i (List.getElem?_eq_some_iff.1 he).1).1 (h3 i (List.getElem?_eq_some_iff.1 he).1).2, Nat.le_trans h.low hk.size⟩
/-- A writer of the program's goes on. -/
theorem Wld.progW (h : Wld B col w gW f x WL RL) {i : Nat} {e : We} (hi : WL[i]? = some e) {Q' : Nat → List UInt8} {tk' wd' : Nat} {L' : List UInt8} {n' : Nat} {closed' : Bool} (hk : Kw w w' (Own B col (10 + 4 * i) w)) (hm : MemW (WN (Own B col (10 + 4 * i) w) w.heap.size w'.heap.size) B w' e.gw e.N Q' tk' wd' L' n' closed') :
 Wld B (recol col (10 + 4 * i) w) w' gW f x (WL.set i { e with Q := Q', tk := tk', wd := wd', L := L', n := n', closed := closed' }) RL := by
 rw [own_self h.low hk.size] at hm
 have hd : MemV (Own B (recol col (10 + 4 * i) w) (11 + 4 * i) w') w' e.gv e.gu e.N e.Qd e.k := by
  rw [own_other (by omega) hk.size]
  exact (h.wr i e hi).doc.frame hk.size (fun b q => hk.keeps (by omega) b q)
 refine ⟨h.row.of_block (hk.keeps (by omega) gW h.own), own_same h.own (by omega) hk.size, fun s a b => (h.rows s a b).other hk (by omega), fun i' y hy => ?_, fun i' y hy => (h.rd i' y hy).other hk (by omega) (by omega), Nat.le_trans h.low hk.size⟩
 rcases set_cases hy with ⟨rfl, rfl⟩ | ⟨hne, hy⟩
 · exact ⟨hm, hd⟩
 · exact (h.wr i' y hy).other hk (by omega) (by omega)
/-- A writer of the document's goes on. -/
theorem Wld.docW (h : Wld B col w gW f x WL RL) {i : Nat} {e : We} (hi : WL[i]? = some e) {Q' : Nat → List UInt8} {k' : Vk} (hk : Kw w w' (Own B col (11 + 4 * i) w)) (hm : MemV (Own B col (11 + 4 * i) w) w' e.gv e.gu e.N Q' k') :
 Wld B (recol col (11 + 4 * i) w) w' gW f x (WL.set i { e with Qd := Q', k := k' }) RL := by
 have hm2 := hm.wide (V' := Own B (recol col (11 + 4 * i) w) (11 + 4 * i) w') (fun b q => own_keeps q hk.size) (fun b q => q.2.1)
 have hp : MemW (Own B (recol col (11 + 4 * i) w) (10 + 4 * i) w') B w' e.gw e.N e.Q e.tk e.wd e.L e.n e.closed := by
  rw [own_other (by omega) hk.size]
  exact (h.wr i e hi).prog.frame hk.size (fun b q => hk.keeps (by omega) b q)
 refine ⟨h.row.of_block (hk.keeps (by omega) gW h.own), own_same h.own (by omega) hk.size, fun s a b => (h.rows s a b).other hk (by omega), fun i' y hy => ?_, fun i' y hy => (h.rd i' y hy).other hk (by omega) (by omega), Nat.le_trans h.low hk.size⟩
 rcases set_cases hy with ⟨rfl, rfl⟩ | ⟨hne, hy⟩
 · exact ⟨hp, hm2⟩
 · exact (h.wr i' y hy).other hk (by omega) (by omega)
/-- A reader of the program's goes on. -/
theorem Wld.progR (h : Wld B col w gW f x WL RL) {i : Nat} {e : Re} (hi : RL[i]? = some e) {A' : ByteArray} {R' : Nat → List UInt8} (hk : Kw w w' (Own B col (12 + 4 * i) w)) (hm : MemR (WN (Own B col (12 + 4 * i) w) w.heap.size w'.heap.size) B w' e.gr e.N A' R') :
 Wld B (recol col (12 + 4 * i) w) w' gW f x WL (RL.set i { e with A := A', R := R' }) := by
 rw [own_self h.low hk.size] at hm
 have hd : MemQ (Own B (recol col (12 + 4 * i) w) (13 + 4 * i) w') w' e.gq e.gg e.N e.Ad e.d e.Rd := by
  rw [own_other (by omega) hk.size]
  exact (h.rd i e hi).doc.frame hk.size (fun b q => hk.keeps (by omega) b q)
 refine ⟨h.row.of_block (hk.keeps (by omega) gW h.own), own_same h.own (by omega) hk.size, fun s a b => (h.rows s a b).other hk (by omega), fun i' y hy => (h.wr i' y hy).other hk (by omega) (by omega), fun i' y hy => ?_, Nat.le_trans h.low hk.size⟩
 rcases set_cases hy with ⟨rfl, rfl⟩ | ⟨hne, hy⟩
 · exact ⟨hm, hd⟩
 · exact (h.rd i' y hy).other hk (by omega) (by omega)
/-- A reader of the document's goes on. -/
theorem Wld.docR (h : Wld B col w gW f x WL RL) {i : Nat} {e : Re} (hi : RL[i]? = some e) {A' : ByteArray} {d' : Nat} {R' : Nat → List UInt8} (hk : Kw w w' (Own B col (13 + 4 * i) w)) (hm : MemQ (Own B col (13 + 4 * i) w) w' e.gq e.gg e.N A' d' R') :
 Wld B (recol col (13 + 4 * i) w) w' gW f x WL (RL.set i { e with Ad := A', d := d', Rd := R' }) := by
 have hm2 := hm.wide (V' := Own B (recol col (13 + 4 * i) w) (13 + 4 * i) w') (fun b q => own_keeps q hk.size) (fun b q => q.2.1)
 have hp : MemR (Own B (recol col (13 + 4 * i) w) (12 + 4 * i) w') B w' e.gr e.N e.A e.R := by
  rw [own_other (by omega) hk.size]
  exact (h.rd i e hi).prog.frame hk.size (fun b q => hk.keeps (by omega) b q)
 refine ⟨h.row.of_block (hk.keeps (by omega) gW h.own), own_same h.own (by omega) hk.size, fun s a b => (h.rows s a b).other hk (by omega), fun i' y hy => (h.wr i' y hy).other hk (by omega) (by omega), fun i' y hy => ?_, Nat.le_trans h.low hk.size⟩
 rcases set_cases hy with ⟨rfl, rfl⟩ | ⟨hne, hy⟩
 · exact ⟨hp, hm2⟩
 · exact (h.rd i' y hy).other hk (by omega) (by omega)
/-- A list of the World's goes on. -/
theorem Wld.rowW (h : Wld B col w gW f x WL RL) {s : Nat} (hs1 : 1 ≤ s) (hs6 : s ≤ 6) {xs : List Value} (hk : Kw w w' (Own B col s w)) (hr : Row B (recol col s w) w' s (rowT s) (f (s + 1)) xs.length xs) :
 Wld B (recol col s w) w' gW f (fun t => if t = s then xs else x t) WL RL := by
 refine ⟨h.row.of_block (hk.keeps (by omega) gW h.own), own_same h.own (by omega) hk.size, fun t a b => ?_, fun i' y hy => (h.wr i' y hy).other hk (by omega) (by omega), fun i' y hy => (h.rd i' y hy).other hk (by omega) (by omega), Nat.le_trans h.low hk.size⟩
 by_cases e : t = s
 ·
  subst e
  simp only [if_true]
  exact hr
 ·
  simp only [if_neg e]
  exact (h.rows t a b).other hk e
end
/- Channels: the World's lists: a place is read, set; one more is laid behind. -/
section
variable {B : Nat} {col : Nat → Nat} {w : World} {s : Nat} {T : TypeId} {v : Value} {n : Nat} {xs : List Value}
/-- As a slice. -/
theorem Row.slice (h : Row B col w s T v n xs) : ∃ ao cap, v = .slice ao n cap := by
 obtain ⟨_, q⟩ := h.own
 rcases q with ⟨q, q0⟩ | ⟨g, cap, cur, q, _⟩
 · exact ⟨none, 0, by rw [q, q0]⟩
 · exact ⟨_, _, q⟩
/-- A place of it. -/
theorem Row.get (h : Row B col w s T v n xs) (i : Nat) {x : Value} (hx : xs[i]? = some x) : ∃ g cap, v = .slice (some ⟨g, 0, none⟩) n cap ∧ w.cell? ⟨g, i, none⟩ = some x ∧ w.frozen? ⟨g, i, none⟩ = false ∧ Own B col s w g ∧ i < n := by
 have hown := h.own
 obtain ⟨hl, q⟩ := h.own
 have hi := (List.getElem?_eq_some_iff.1 hx).1
 rcases q with ⟨q, q0⟩ | ⟨g, cap, cur, q, hb, hh, hc, hm, hs, ht⟩
 · omega
 ·
  have hc2 := hown.cells (g := g) (by rw [q]; rfl) i x hx
  rw [addr_add0] at hc2
  refine ⟨g, cap, q, hc2, ?_, h.col g (by rw [q]; rfl), by omega⟩
  simp [World.frozen?, hh]
/-- A place is set. -/
theorem Row.set (h : Row B col w s T v n xs) (i : Nat) (x : Value) (_hx1 : x.oneCell' = true) {g cap : Nat} (hv : v = .slice (some ⟨g, 0, none⟩) n cap) (hi : i < n) : Row B col (w.setCell ⟨g, i, none⟩ x) s T v n (xs.set i x) := by
 obtain ⟨hl, q⟩ := h.own
 have hz : (w.setCell ⟨g, i, none⟩ x).heap.size = w.heap.size := by simp [World.setCell]
 refine ⟨⟨by rw [List.length_set]; exact hl, ?_⟩, fun g' e => by have := h.col g' e; exact ⟨this.1, by rw [hz]; exact this.2.1, this.2.2⟩⟩
 rcases q with ⟨q, q0⟩ | ⟨g', cap', cur, q, hb, hh, hc, hm, hs, ht⟩
 · omega
 ·
  rw [hv] at q
  simp only [Value.slice.injEq, Option.some.injEq, Addr.mk.injEq, true_and, and_true] at q
  obtain ⟨rfl, rfl⟩ := q
  refine Or.inr ⟨g, cap, cur.setIfInBounds i x, hv, hb, by simp [World.setCell, Array.getElem?_modify, hh], hc, hm, by simpa using hs, ?_⟩
  rw [Array.toList_setIfInBounds, List.take_set, ht]
end
section
variable {B : Nat} {col : Nat → Nat} {w : World} {gW : Nat} {f : Nat → Value} {x : Nat → List Value} {WL : List We} {RL : List Re}
/-- A place of a list of the World's is read. -/
theorem Wld.get (h : Wld B col w gW f x WL RL) {s : Nat} (hs1 : 1 ≤ s) (hs6 : s ≤ 6) (i : Nat) {y : Value} (hy : (x s)[i]? = some y) : ∃ g cap, w.cell? ⟨gW, s + 1, none⟩ = some (.slice (some ⟨g, 0, none⟩) (x s).length cap) ∧ w.cell? ⟨g, i, none⟩ = some y ∧ w.frozen? ⟨g, i, none⟩ = false ∧ Own B col s w g ∧ f (s + 1) = .slice (some ⟨g, 0, none⟩) (x s).length cap := by
 obtain ⟨g, cap, hv, h1, h2, h3, _⟩ := (h.rows s hs1 hs6).get i hy
 exact ⟨g, cap, by rw [h.row.cell (i := s + 1) (by omega), hv], h1, h2, h3, hv⟩
theorem Wld.len (h : Wld B col w gW f x WL RL) {s : Nat} (hs1 : 1 ≤ s) (hs6 : s ≤ 6) : ∃ ao cap, w.cell? ⟨gW, s + 1, none⟩ = some (.slice ao (x s).length cap) := by
 obtain ⟨ao, cap, hv⟩ := (h.rows s hs1 hs6).slice
 exact ⟨ao, cap, by rw [h.row.cell (i := s + 1) (by omega), hv]⟩
/-- It is set. -/
theorem Wld.set (h : Wld B col w gW f x WL RL) {s : Nat} (hs1 : 1 ≤ s) (hs6 : s ≤ 6) (i : Nat) {y : Value} (hy1 : y.oneCell' = true) {g cap : Nat} (hv : f (s + 1) = .slice (some ⟨g, 0, none⟩) (x s).length cap) (hi : i < (x s).length) (ho : Own B col s w g) :
 Wld B (recol col s w) (w.setCell ⟨g, i, none⟩ y) gW f (fun t => if t = s then (x s).set i y else x t) WL RL := by
 have hk : Kw w (w.setCell ⟨g, i, none⟩ y) (Own B col s w) := kw_set w y ho
 have hr := (h.rows s hs1 hs6).set i y hy1 hv hi
 refine h.rowW hs1 hs6 hk ⟨by rw [List.length_set]; exact hr.own, fun g' e => ?_⟩
 exact own_keeps ((h.rows s hs1 hs6).col g' e) hk.size
/-- A list of the World's is laid anew, with one more behind: the append, then the field. -/
theorem Wld.grow (h : Wld B col w gW f x WL RL) {s : Nat} (hs1 : 1 ≤ s) (hs6 : s ≤ 6) {w1 : World} {y v' : Value} {g' : Nat} (hv : v'.ownBlock = some g') (ho : w1.ownsRow B (rowT s) 1 v' ((x s).length + 1) (x s ++ [y])) (hg : w.heap.size ≤ g' ∨ (f (s + 1)).ownBlock = some g') (hgr : w.grownBy w1 (some g')) :
 Wld B (recol (recol col s w) 0 w1) (w1.setCell ⟨gW, s + 1, none⟩ v') gW (fun t => if t = s + 1 then v' else f t) (fun t => if t = s then x s ++ [y] else x t) WL RL ∧ w1.rowIs gW 63 8 f ∧ Kw w w1 (Own B col s w) := by
 have hrow := h.rows s hs1 hs6
 have hk : Kw w w1 (Own B col s w) := ⟨hgr.os, hgr.tape, hgr.output, hgr.size, fun b hb hn => hgr.block b hb (fun e => hn (by
  rcases hg with q | q
  · have : b = g' := Option.some.inj e; omega
  ·
   have e2 : b = g' := Option.some.inj e
   rw [e2]
   exact hrow.col g' q))⟩
 have hg1 : Own B (recol col s w) s w1 g' := by
  rcases hg with q | q
  · exact ⟨Nat.le_trans h.low q, (ho.lt g' hv).2, by unfold recol; rw [if_pos q]⟩
  · exact own_keeps (hrow.col g' q) hk.size
 have hgW1 : w1.rowIs gW 63 8 f := h.row.of_block (hk.keeps (by omega) gW h.own)
 have hoW1 : Own B (recol col s w) 0 w1 gW := own_same h.own (by omega) hk.size
 have hk2 : Kw w1 (w1.setCell ⟨gW, s + 1, none⟩ v') (Own B (recol col s w) 0 w1) := kw_set w1 v' hoW1
 have hz2 : w1.heap.size ≤ (w1.setCell ⟨gW, s + 1, none⟩ v').heap.size := hk2.size
 refine ⟨⟨(hgW1.set (s + 1) v').congr (fun i _ => rfl), own_keeps hoW1 hz2, fun t a b => ?_, fun i e he => ((h.wr i e he).other hk (by omega) (by omega)).other hk2 (by omega) (by omega), fun i e he => ((h.rd i e he).other hk (by omega) (by omega)).other hk2 (by omega) (by omega), Nat.le_trans (Nat.le_trans h.low hk.size) hz2⟩, hgW1, hk⟩
 by_cases e : t = s
 ·
  subst e
  simp only [if_true]
  have r1 : Row B (recol col t w) w1 t (rowT t) v' (x t ++ [y]).length (x t ++ [y]) := ⟨by rw [List.length_append]; exact ho, fun g e => by rw [hv] at e; exact (Option.some.inj e) ▸ hg1⟩
  exact r1.other hk2 (by omega)
 ·
  simp only [if_neg e, if_neg (show ¬ t + 1 = s + 1 by omega)]
  exact ((h.rows t a b).other hk e).other hk2 (by omega)
end
/- What is refused: by the program and by the document alike. -/
set_option maxHeartbeats 400000 in
theorem allowed_bad (c : Int) (w : World) (h : c < 1 ∨ 8 < c) : Calls Tryz.prog 51 #[.int .i64 c] w fun e w' => e = .returned (.bool false) ∧ w' = w := by
 rcases h with h | h
 ·
  have d1 : decide ((1 : Int) ≤ c) = false := by rw [decide_eq_false_iff_not]; omega
  go_enter Tryz.func51, Tryz.ntmps51
  go_wp2
  go_ret
  exact ⟨rfl, rfl⟩
 ·
  have d1 : decide ((1 : Int) ≤ c) = true := by rw [decide_eq_true_iff]; omega
  have d2 : decide (c ≤ 8) = false := by rw [decide_eq_false_iff_not]; omega
  go_enter Tryz.func51, Tryz.ntmps51
  go_wp2
  go_ret
  exact ⟨rfl, rfl⟩
set_option maxHeartbeats 400000 in
theorem newWriter_bad (c : Int) (w : World) (h : c < 1 ∨ 8 < c) : Calls Tryz.prog 27 #[.int .i64 c] w fun e w' => e = .returned (.tuple #[.pointer none, .int .i64 4]) ∧ w' = w := by
 go_enter Tryz.func27, Tryz.ntmps27
 go_wp2_with fail
 refine (allowed_bad c w h).mono ?_
 rintro e w1 ⟨rfl, rfl⟩
 go_wp2
 go_ret2
 exact ⟨rfl, rfl⟩
set_option maxHeartbeats 400000 in
theorem newReader_bad (c : Int) (w : World) (h : c < 1 ∨ 8 < c) : Calls Tryz.prog 28 #[.int .i64 c] w fun e w' => e = .returned (.tuple #[.pointer none, .int .i64 4]) ∧ w' = w := by
 go_enter Tryz.func28, Tryz.ntmps28
 go_wp2_with fail
 refine (allowed_bad c w h).mono ?_
 rintro e w1 ⟨rfl, rfl⟩
 go_wp2
 go_ret2
 exact ⟨rfl, rfl⟩
set_option maxHeartbeats 400000 in
theorem vnew_bad (c : Int) (w : World) (h : c < 1 ∨ 8 < c) : Calls Tryz.prog 38 #[.int .i64 c] w fun e w' => e = .returned (.tuple #[.pointer none, .int .i64 4]) ∧ w' = w := by
 rcases h with h | h
 ·
  have d1 : decide (c < 1) = true := by rw [decide_eq_true_iff]; omega
  go_enter Tryz.func38, Tryz.ntmps38
  go_wp2
  go_ret2
  exact ⟨rfl, rfl⟩
 ·
  have d1 : decide (c < 1) = false := by rw [decide_eq_false_iff_not]; omega
  have d2 : decide (8 < c) = true := by rw [decide_eq_true_iff]; omega
  go_enter Tryz.func38, Tryz.ntmps38
  go_wp2
  go_ret2
  exact ⟨rfl, rfl⟩
set_option maxHeartbeats 400000 in
theorem qnew_bad (c : Int) (w : World) (h : c < 1 ∨ 8 < c) : Calls Tryz.prog 40 #[.int .i64 c] w fun e w' => e = .returned (.tuple #[.pointer none, .int .i64 4]) ∧ w' = w := by
 rcases h with h | h
 ·
  have d1 : decide (c < 1) = true := by rw [decide_eq_true_iff]; omega
  go_enter Tryz.func40, Tryz.ntmps40
  go_wp2
  go_ret2
  exact ⟨rfl, rfl⟩
 ·
  have d1 : decide (c < 1) = false := by rw [decide_eq_false_iff_not]; omega
  have d2 : decide (8 < c) = true := by rw [decide_eq_true_iff]; omega
  go_enter Tryz.func40, Tryz.ntmps40
  go_wp2
  go_ret2
  exact ⟨rfl, rfl⟩
set_option maxRecDepth 8000 in
set_option maxHeartbeats 400000 in
theorem vnew_any (N : Nat) (w : World) (h1 : 1 ≤ N) (hN : N ≤ 8) :
 Calls Tryz.prog 38 #[.int .i64 (N : Int)] w fun e w' => ∃ gv gu, e = .returned (.tuple #[.pointer (some ⟨gv, 0, none⟩), .int .i64 0]) ∧ MemV (newV w w') w' gv gu N (fun _ => []) vk0 ∧ Below w.heap.size w w' := by
 have hmk := make_strs N hN
 have hrow := fun W => World.rowIs_made W (.string .empty) N 9
 generalize madeCells #[.string .empty] N = Mz at hmk hrow
 have d1 : decide ((N : Int) < 1) = false := by rw [decide_eq_false_iff_not]; omega
 have d2 : decide (8 < (N : Int)) = false := by rw [decide_eq_false_iff_not]; omega
 have HF : Hid (∃ gv gu, Ending.returned (.tuple #[.pointer (some ⟨w.heap.size + 1, 0, none⟩), .int .i64 0]) = .returned (.tuple #[.pointer (some ⟨gv, 0, none⟩), .int .i64 0]) ∧ MemV (newV w ((w.alloc (.cells Mz 9)).alloc (.cells #[.slice (some ⟨w.heap.size, 0, none⟩) N N, .string .empty, .int .i64 0, .int .i64 0, .int .i64 0, .bool false, .int .i64 0, .int .i64 0] 110))) ((w.alloc (.cells Mz 9)).alloc (.cells #[.slice (some ⟨w.heap.size, 0, none⟩) N N, .string .empty, .int .i64 0, .int .i64 0, .int .i64 0, .bool false, .int .i64 0, .int .i64 0] 110)) gv gu N (fun _ => []) vk0 ∧ Below w.heap.size w ((w.alloc (.cells Mz 9)).alloc (.cells #[.slice (some ⟨w.heap.size, 0, none⟩) N N, .string .empty, .int .i64 0, .int .i64 0, .int .i64 0, .bool false, .int .i64 0, .int .i64 0] 110))) := by
  have e1 : (w.alloc (.cells Mz 9)).heap.size = w.heap.size + 1 := by simp
  have r := World.rowIs_alloc (w.alloc (.cells Mz 9)) #[.slice (some ⟨w.heap.size, 0, none⟩) N N, .string .empty, .int .i64 0, .int .i64 0, .int .i64 0, .bool false, .int .i64 0, .int .i64 0] 110 (vwCell w.heap.size N vk0) (fun i hi => by match i, hi with | 0, _ => rfl | 1, _ => rfl | 2, _ => rfl | 3, _ => rfl | 4, _ => rfl | 5, _ => rfl | 6, _ => rfl | 7, _ => rfl)
  rw [e1] at r
  refine ⟨w.heap.size + 1, w.heap.size, rfl, ⟨r, ((hrow w).alloc _).congr (fun i _ => rfl), by omega, hN, ⟨⟨by omega, by simp⟩, ⟨Nat.le_refl _, by simp; omega⟩⟩, fun b q => q.2⟩, ((Below.refl _ _).alloc (Nat.le_refl _) _).alloc (by simp) _⟩
 go_enter Tryz.func38, Tryz.ntmps38
 go_wp2
 go_ret2
 exact HF.out
set_option maxRecDepth 4000 in
set_option maxHeartbeats 400000 in
theorem write_bad (W : Nat → Prop) (B gx N : Nat) (Q : Nat → List UInt8) (tk wd : Nat) (L : List UInt8) (n : Nat) (closed : Bool) (c : Int) (S : ByteArray) (w : World) (h : MemW W B w gx N Q tk wd L n closed) (hc : c < 0 ∨ (N : Int) ≤ c) :
 Calls Tryz.prog 11 #[.pointer (some ⟨gx, 0, none⟩), .int .i64 c, .string S] w fun e w' => e = .returned (.tuple #[.int .i64 0, .int .i64 4]) ∧ w' = w := by
 obtain ⟨f, gw, fq, vb, off, lr, M, h, hd, hml⟩ := h
 have c0 := h.buf.row.cell (i := 0) (by omega)
 rw [h.f0] at c0
 clear h hd hml
 rcases hc with hc | hc
 ·
  have d1 : decide (c < 0) = true := by rw [decide_eq_true_iff]; omega
  go_enter Tryz.func11, Tryz.ntmps11
  go_wp2
  go_ret2
  exact ⟨rfl, rfl⟩
 ·
  have d1 : decide (c < 0) = false := by rw [decide_eq_false_iff_not]; omega
  have d2 : decide ((N : Int) ≤ c) = true := by rw [decide_eq_true_iff]; omega
  go_enter Tryz.func11, Tryz.ntmps11
  go_wp2
  go_ret2
  exact ⟨rfl, rfl⟩
set_option maxRecDepth 4000 in
set_option maxHeartbeats 400000 in
theorem vwrite_bad (V : Nat → Prop) (gv gu N : Nat) (Q : Nat → List UInt8) (k : Vk) (c : Int) (S : ByteArray) (w : World) (h : MemV V w gv gu N Q k) (hc : c < 0 ∨ (N : Int) ≤ c) :
 Calls Tryz.prog 23 #[.pointer (some ⟨gv, 0, none⟩), .int .i64 c, .string S] w fun e w' => e = .returned (.tuple #[.int .i64 0, .int .i64 4]) ∧ w' = w := by
 have c0 : w.cell? ⟨gv, 0, none⟩ = some (.slice (some ⟨gu, 0, none⟩) N N) := (h.cell 0 (by omega)).1
 clear h
 rcases hc with hc | hc
 ·
  have d1 : decide (c < 0) = true := by rw [decide_eq_true_iff]; omega
  go_enter Tryz.func23, Tryz.ntmps23
  go_wp2
  go_ret2
  exact ⟨rfl, rfl⟩
 ·
  have d1 : decide (c < 0) = false := by rw [decide_eq_false_iff_not]; omega
  have d2 : decide ((N : Int) ≤ c) = true := by rw [decide_eq_true_iff]; omega
  go_enter Tryz.func23, Tryz.ntmps23
  go_wp2
  go_ret2
  exact ⟨rfl, rfl⟩
set_option maxRecDepth 4000 in
set_option maxHeartbeats 400000 in
theorem vwrite_shut (V : Nat → Prop) (gv gu N : Nat) (Q : Nat → List UInt8) (k : Vk) (c : Nat) (S : ByteArray) (w : World) (h : MemV V w gv gu N Q k) (hc : c < N) (ho : k.closed = true) :
 Calls Tryz.prog 23 #[.pointer (some ⟨gv, 0, none⟩), .int .i64 (c : Int), .string S] w fun e w' => e = .returned (.tuple #[.int .i64 0, .int .i64 5]) ∧ w' = w := by
 have c0 : w.cell? ⟨gv, 0, none⟩ = some (.slice (some ⟨gu, 0, none⟩) N N) := (h.cell 0 (by omega)).1
 have c5 : w.cell? ⟨gv, 5, none⟩ = some (.bool true) := by have q := (h.cell 5 (by omega)).1; rw [show vwCell gu N k 5 = .bool k.closed from rfl, ho] at q; exact q
 have d1 : decide ((c : Int) < 0) = false := by rw [decide_eq_false_iff_not]; omega
 have d2 : decide ((N : Int) ≤ (c : Int)) = false := by rw [decide_eq_false_iff_not]; omega
 have d3 : decide (N ≤ c) = false := by rw [decide_eq_false_iff_not]; omega
 clear h
 go_enter Tryz.func23, Tryz.ntmps23
 go_wp2
 go_ret2
 exact ⟨rfl, rfl⟩
end Go.Proofs.YtecddphahiadlaaGreatDoor
