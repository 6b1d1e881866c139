import Derived.Test.YtecddphahiadlaaGreatDoorCErrX
import Derived.Test.YtecddphahiadlaaGreatDoorCQrdR
import Derived.Test.YtecddphahiadlaaGreatDoorCLinO
/- Channels: the state: both sides of the World say the same; the readers' calls side by side. -/
namespace Go.Proofs.YtecddphahiadlaaGreatDoor
open Go.RowKit
theorem numc_any (x : Int) (w : World) : Calls Tryz.prog 39 #[.int .i64 x] w fun e w' => e = .returned (.int .i64 x) ∧ w' = w := by
 go_enter Tryz.func39, Tryz.ntmps39
 go_wp2
 go_ret
 exact ⟨rfl, rfl⟩
theorem MemR.sorter {W : Nat → Prop} {B : Nat} {w : World} {gx N : Nat} {A : ByteArray} {R : Nat → List UInt8} (h : MemR W B w gx N A R) : ∃ U f gc fc vf v t z, So U B w gx 10 88 14 f gc N fc vf v t z := by
 rcases h with ⟨_, S, U, s, m, σ, vt, x, gc, fc, vf, v, z, h, _⟩ | ⟨_, U, f, gc, fc, vf, v, t, z, h, _⟩
 · exact ⟨U, _, gc, fc, vf, v, _, z, h.core.so⟩
 · exact ⟨U, f, gc, fc, vf, v, t, z, h.so⟩
/-- What was read is of what came. -/
theorem MemR.got {W : Nat → Prop} {B : Nat} {w : World} {gx N : Nat} {A : ByteArray} {R : Nat → List UInt8} (h : MemR W B w gx N A R) (c : Nat) : (R c).length ≤ ((gotF N A).ch c).length := by
 have hz : ∃ z, gotF N A = preR R z := by
  rcases h with ⟨_, S, U, s, m, σ, vt, x, gc, fc, vf, v, z, _, ha⟩ | ⟨_, U, f, gc, fc, vf, v, t, z, _, _, ha⟩
  · exact ⟨z, by unfold gotF; rw [ha.got]⟩
  · exact ⟨z, ha⟩
 obtain ⟨z, hz⟩ := hz
 rw [hz]
 unfold preR
 rw [List.length_append]
 omega
set_option maxRecDepth 4000 in
set_option maxHeartbeats 400000 in
theorem mread_bad (W : Nat → Prop) (B gx N : Nat) (A : ByteArray) (R : Nat → List UInt8) (c most : Int) (w : World) (h : MemR W B w gx N A R) (hc : c < 0 ∨ (N : Int) ≤ c) :
 Calls Tryz.prog 48 #[.pointer (some ⟨gx, 0, none⟩), .int .i64 c, .int .i64 most] w fun e w' => e = .returned (.tuple #[.string .empty, .int .i64 4]) ∧ w' = w := by
 obtain ⟨U, f, gc, fc, vf, v, t, z, hS⟩ := h.sorter
 have HH : Hid (Calls Tryz.prog 66 #[.pointer (some ⟨gx, 10, none⟩), .int .i64 c] w fun e w' => e = .returned (.bool false) ∧ w' = w) := by
  refine (has_any U B gx 10 _ 14 f gc N fc vf v t z c w hS).mono ?_
  rintro e w' ⟨he, hw⟩
  exact ⟨by rw [he, decide_eq_false (by omega)], hw⟩
 clear h hS
 go_enter Tryz.func48, Tryz.ntmps48
 go_wp2_with fail
 refine Calls.mono HH.out ?_
 rintro e w' ⟨rfl, rfl⟩
 go_wp2
 go_ret2
 exact ⟨rfl, rfl⟩
def ptr (g : Nat) : Value := .pointer (some ⟨g, 0, none⟩)
/-- The writers of a pair know the same. -/
structure WeI (e : We) (j : Nat) : Prop where
 n1 : 1 ≤ e.N
 same : e.Qd = e.Q
 rel : ∃ X, WsI e.N e.Q e.tk e.wd e.L e.n e.closed e.k e.had e.may X j
 may : e.may ≤ 10000 * j
/-- The readers of a pair know the same. -/
structure ReI (e : Re) (j : Nat) : Prop where
 n1 : 1 ≤ e.N
 came : e.Ad = e.A
 gone : e.Rd = e.R
 died : e.d = ansF e.N e.A
 few : e.A.size ≤ 6000000 * j
theorem WeI.later {e : We} {j j' : Nat} (h : WeI e j) (hj : j ≤ j') : WeI e j' := by
 obtain ⟨X, hX⟩ := h.rel
 exact ⟨h.n1, h.same, ⟨X, hX.later hj⟩, by have := h.may; omega⟩
theorem ReI.later {e : Re} {j j' : Nat} (h : ReI e j) (hj : j ≤ j') : ReI e j' := ⟨h.n1, h.came, h.gone, h.died, by have := h.few; omega⟩
/-- The World after j steps. -/
structure ChaS (w0 : World) (col : Nat → Nat) (w : World) (gW : Nat) (f : Nat → Value) (x : Nat → List Value) (WL : List We) (RL : List Re) (j : Nat) : Prop where
 mem : Wld w0.heap.size col w gW f x WL RL
 below : Below w0.heap.size w0 w
 x1 : x 1 = WL.map (fun e : We => ptr e.gw)
 x2 : x 2 = WL.map (fun e : We => ptr e.gv)
 x3 : x 3 = RL.map (fun e : Re => ptr e.gr)
 x4 : x 4 = RL.map (fun e : Re => ptr e.gq)
 x5 : x 5 = WL.map (fun e : We => Value.string e.had)
 x6 : x 6 = WL.map (fun e : We => Value.int .i64 ((e.may : Nat) : Int))
 ws : ∀ (i : Nat) e, WL[i]? = some e → WeI e j
 rs : ∀ (i : Nat) e, RL[i]? = some e → ReI e j
 many : WL.length ≤ j + 3 ∧ RL.length ≤ j + 3
def Cha (w0 w : World) (gW nw nr j : Nat) : Prop := ∃ col f x WL RL, ChaS w0 col w gW f x WL RL j ∧ WL.length = nw ∧ RL.length = nr
/-- A place of a list of the World's. -/
def At (w : World) (gW s i n : Nat) (v : Value) : Prop := ∃ g cap, w.cell? ⟨gW, s, none⟩ = some (.slice (some ⟨g, 0, none⟩) n cap) ∧ w.cell? ⟨g, i, none⟩ = some v
section
variable {w0 w : World} {col : Nat → Nat} {gW : Nat} {f : Nat → Value} {x : Nat → List Value} {WL : List We} {RL : List Re} {j : Nat}
theorem map_at {α : Type} {l : List α} {g : α → Value} {i : Nat} {e : α} (h : l[i]? = some e) : (l.map g)[i]? = some (g e) := by rw [List.getElem?_map, h]; rfl
theorem set_at {α : Type} {l : List α} {i : Nat} {e : α} (e' : α) (h : l[i]? = some e) : (l.set i e')[i]? = some e' := by
 have := (List.getElem?_eq_some_iff.1 h).1
 simp [this]
theorem map_set_same {α : Type} {l : List α} {g : α → Value} {i : Nat} {e e' : α} (h : l[i]? = some e) (hg : g e' = g e) : (l.set i e').map g = l.map g := by
 rw [List.map_set, hg]
 apply List.ext_getElem?
 intro k
 rw [List.getElem?_set]
 split
 ·
  next q =>
  subst q
  split
  · exact (map_at h).symm
  · next z => exact absurd (by rw [List.length_map]; exact (List.getElem?_eq_some_iff.1 h).1) z
 · rfl
theorem Wld.at (h : Wld w0.heap.size col w gW f x WL RL) {s : Nat} (hs1 : 1 ≤ s) (hs6 : s ≤ 6) {i : Nat} {v : Value} (hv : (x s)[i]? = some v) {n : Nat} (hn : (x s).length = n) : At w gW (s + 1) i n v := by
 obtain ⟨g, cap, h1, h2, _⟩ := h.get hs1 hs6 i hv
 exact ⟨g, cap, by rw [← hn]; exact h1, h2⟩
/-- The readers of a pair, and both go on. -/
theorem ChaS.setR (h : ChaS w0 col w gW f x WL RL j) {col' : Nat → Nat} {w' : World} {i : Nat} {e e' : Re} (hi : RL[i]? = some e) (hm : Wld w0.heap.size col' w' gW f x WL (RL.set i e')) (hb : Below w0.heap.size w0 w') (hr : e'.gr = e.gr) (hq : e'.gq = e.gq) (hI : ReI e' (j + 1)) : Cha w0 w' gW WL.length RL.length (j + 1) :=
 ⟨col', f, x, WL, RL.set i e', ⟨hm, hb, h.x1, h.x2, by rw [map_set_same hi (by rw [hr])]; exact h.x3, by rw [map_set_same hi (by rw [hq])]; exact h.x4, h.x5, h.x6, fun k y hy => (h.ws k y hy).later (Nat.le_succ j), fun k y hy => by
  rcases set_cases hy with ⟨_, rfl⟩ | ⟨_, hy⟩
  · exact hI
  · exact (h.rs k y hy).later (Nat.le_succ j), by rw [List.length_set]; have := h.many; omega⟩, rfl, List.length_set⟩
theorem ChaS.laterC (h : ChaS w0 col w gW f x WL RL j) : Cha w0 w gW WL.length RL.length (j + 1) :=
 ⟨col, f, x, WL, RL, ⟨h.mem, h.below, h.x1, h.x2, h.x3, h.x4, h.x5, h.x6, fun k y hy => (h.ws k y hy).later (Nat.le_succ j), fun k y hy => (h.rs k y hy).later (Nat.le_succ j), by have := h.many; omega⟩, rfl, rfl⟩
/-- Something new is made beside. -/
theorem ChaS.made (h : ChaS w0 col w gW f x WL RL j) {w' : World} (hb : Below w.heap.size w w') : ChaS w0 (recol col 7 w) w' gW f x WL RL j :=
 ⟨h.mem.other (Kw.below hb) (by omega) (fun s a b => by omega) (fun i _ => ⟨by omega, by omega⟩) (fun i _ => ⟨by omega, by omega⟩), Kw.onto (W := fun _ => False) h.below (Kw.below hb) (fun b z => z.elim), h.x1, h.x2, h.x3, h.x4, h.x5, h.x6, h.ws, h.rs, h.many⟩
/-- Both Feeds. -/
theorem ChaS.feed (h : ChaS w0 col w gW f x WL RL j) {i : Nat} {e : Re} (hi : RL[i]? = some e) (S : ByteArray) (hS : S.size ≤ 6000000) (hj : j ≤ 2000000) (h0 : 1 < w0.heap.size) (hord : OrdIn w0 1) :
 ∃ a : Nat, At w gW 4 i RL.length (ptr e.gr) ∧ Calls Tryz.prog 53 #[ptr e.gr, .string S] w fun r w1 => r = .returned (.int .i64 (a : Int)) ∧ At w1 gW 5 i RL.length (ptr e.gq) ∧
  Calls Tryz.prog 65 #[ptr e.gq, .string S] w1 fun r w2 => r = .returned (.int .i64 (a : Int)) ∧ Cha w0 w2 gW WL.length RL.length (j + 1) := by
 have hI := h.rs i e hi
 have hP := h.mem.rd i e hi
 have a3 : (x 3)[i]? = some (ptr e.gr) := by rw [h.x3]; exact map_at hi
 have a4 : (x 4)[i]? = some (ptr e.gq) := by rw [h.x4]; exact map_at hi
 have l3 : (x 3).length = RL.length := by rw [h.x3, List.length_map]
 have l4 : (x 4).length = RL.length := by rw [h.x4, List.length_map]
 have hfew := hI.few
 by_cases q : ansF e.N e.A = 0
 ·
  refine ⟨ansF e.N (e.A ++ S), h.mem.at (by omega) (by omega) a3 l3, ?_⟩
  refine (mfeed_any _ w0.heap.size e.gr e.N e.A S e.R w hP.prog q h.mem.low (by omega) h0 (hord.later h.below h0)).mono ?_
  rintro r w1 ⟨hr, hk, hm⟩
  have m1 := h.mem.progR hi hk hm
  have b1 := hk.onto h.below (fun b z => z.1)
  refine ⟨hr, m1.at (by omega) (by omega) a4 l4, ?_⟩
  have hi1 := set_at { e with A := e.A ++ S, R := e.R } hi
  have hP1 := (m1.rd i _ hi1).doc
  have hd : e.d = 0 := by rw [hI.died]; exact q
  have hP2 : MemQ (Own w0.heap.size (recol col (12 + 4 * i) w) (13 + 4 * i) w1) w1 e.gq e.gg e.N e.A 0 e.R := by
   have := hP1
   simp only [hI.came, hI.gone, hd] at this
   exact this
  refine (qfeed_any _ e.gq e.gg e.N e.A S e.R w1 hP2 (by omega)).mono ?_
  rintro r2 w2 ⟨hr2, hk2, hm2⟩
  have m2 := m1.docR hi1 hk2 hm2
  rw [List.set_set] at m2
  refine ⟨hr2, h.setR hi m2 (hk2.onto b1 (fun b z => z.1)) rfl rfl ⟨hI.n1, rfl, rfl, rfl, ?_⟩⟩
  show (e.A ++ S).size ≤ _
  rw [ByteArray.size_append]
  omega
 ·
  refine ⟨7, h.mem.at (by omega) (by omega) a3 l3, ?_⟩
  refine (mfeed_dead _ w0.heap.size e.gr e.N e.A S e.R w hP.prog q).mono ?_
  rintro r w1 ⟨hr, rfl⟩
  refine ⟨hr, h.mem.at (by omega) (by omega) a4 l4, ?_⟩
  refine (qfeed_dead _ e.gq e.gg e.N e.Ad S e.d e.Rd w1 hP.doc (by rw [hI.died]; exact q)).mono ?_
  rintro r w2 ⟨hr, rfl⟩
  exact ⟨hr, h.laterC⟩
/-- Both Reads. -/
theorem ChaS.read (h : ChaS w0 col w gW f x WL RL j) {i : Nat} {e : Re} (hi : RL[i]? = some e) (c most : Int) (hj : j ≤ 2000000) (hm : most ≤ 9223372036854775807) (hm0 : -9223372036854775808 ≤ most) :
 ∃ (t : ByteArray) (a : Nat), At w gW 4 i RL.length (ptr e.gr) ∧ Calls Tryz.prog 48 #[ptr e.gr, .int .i64 c, .int .i64 most] w fun r w1 => r = .returned (.tuple #[.string t, .int .i64 (a : Int)]) ∧ At w1 gW 5 i RL.length (ptr e.gq) ∧ (∀ b s, s < 10 → Own w0.heap.size col s w b → w1.heap[b]? = w.heap[b]?) ∧
  ∀ wz : World, wz.heap = w1.heap → wz.os = w1.os → wz.tape = w1.tape → wz.output = w1.output → Calls Tryz.prog 49 #[ptr e.gq, .int .i64 c, .int .i64 most] wz fun r w2 => r = .returned (.tuple #[.string t, .int .i64 (a : Int)]) ∧ (∀ b s, s < 10 → Own w0.heap.size col s w b → w2.heap[b]? = w.heap[b]?) ∧ Cha w0 w2 gW WL.length RL.length (j + 1) := by
 have hI := h.rs i e hi
 have hP := h.mem.rd i e hi
 have a3 : (x 3)[i]? = some (ptr e.gr) := by rw [h.x3]; exact map_at hi
 have a4 : (x 4)[i]? = some (ptr e.gq) := by rw [h.x4]; exact map_at hi
 have l3 : (x 3).length = RL.length := by rw [h.x3, List.length_map]
 have l4 : (x 4).length = RL.length := by rw [h.x4, List.length_map]
 have hfew := hI.few
 by_cases q : c < 0 ∨ (e.N : Int) ≤ c
 ·
  refine ⟨.empty, 4, h.mem.at (by omega) (by omega) a3 l3, ?_⟩
  refine (mread_bad _ w0.heap.size e.gr e.N e.A e.R c most w hP.prog q).mono ?_
  rintro r w1 ⟨hr, rfl⟩
  refine ⟨hr, h.mem.at (by omega) (by omega) a4 l4, fun _ _ _ _ => rfl, fun wz hh hos ht hp => ?_⟩
  have hD := hP.doc.frame (w' := wz) (by rw [hh]; exact Nat.le_refl _) (fun b _ => by rw [hh])
  refine (qread_bad _ e.gq e.gg e.N e.Ad e.d e.Rd c most wz hD q).mono ?_
  rintro r w2 ⟨hr, rfl⟩
  exact ⟨hr, fun _ _ _ _ => by rw [hh], (h.made ⟨hos, ht, hp, by rw [hh]; exact Nat.le_refl _, fun b _ => by rw [hh]⟩).laterC⟩
 ·
  obtain ⟨c', rfl⟩ : ∃ c' : Nat, c = (c' : Int) := ⟨c.toNat, by omega⟩
  have hc : c' < e.N := by omega
  refine ⟨txt (nextF e.N e.A e.R c' most.toNat), 0, h.mem.at (by omega) (by omega) a3 l3, ?_⟩
  refine (mread_any _ w0.heap.size e.gr e.N e.A e.R c' most w hP.prog hc hm hm0).mono ?_
  rintro r w1 ⟨hr, hk, hm1⟩
  have m1 := h.mem.progR hi hk hm1
  have b1 := hk.onto h.below (fun b z => z.1)
  refine ⟨hr, m1.at (by omega) (by omega) a4 l4, fun b s hs q => hk.keeps (by omega) b q, fun wz hh hos ht hp => ?_⟩
  have hi1 := set_at { e with A := e.A, R := readR e.R c' (nextF e.N e.A e.R c' most.toNat) } hi
  have hP1 := (m1.rd i _ hi1).doc
  have hP2 : MemQ (Own w0.heap.size (recol col (12 + 4 * i) w) (13 + 4 * i) w1) w1 e.gq e.gg e.N e.A e.d e.R := by
   have := hP1
   simp only [hI.came, hI.gone] at this
   exact this
  have hP3 := hP2.frame (w' := wz) (by rw [hh]; exact Nat.le_refl _) (fun b _ => by rw [hh])
  refine (qread_any _ e.gq e.gg e.N e.A e.d e.R c' most wz hP3 hc (by omega) hm hm0 (hP.prog.got c')).mono ?_
  rintro r2 w2 ⟨hr2, hk3, hm2⟩
  have hk2 := hk3.same hh hos ht hp
  have m2 := m1.docR hi1 hk2 hm2
  rw [List.set_set] at m2
  exact ⟨hr2, fun b s hs q => (hk2.keeps (by omega) b (own_same q (by omega) hk.size)).trans (hk.keeps (by omega) b q), h.setR hi m2 (hk2.onto b1 (fun b z => z.1)) rfl rfl ⟨hI.n1, rfl, rfl, hI.died, by show e.A.size ≤ _; omega⟩⟩
/-- Both Dones. -/
theorem ChaS.done (h : ChaS w0 col w gW f x WL RL j) {i : Nat} {e : Re} (hi : RL[i]? = some e) (hj : j ≤ 2000000) :
 ∃ a : Bool, At w gW 4 i RL.length (ptr e.gr) ∧ At w gW 5 i RL.length (ptr e.gq) ∧ (Calls Tryz.prog 10 #[ptr e.gr] w fun r w1 => r = .returned (.bool a) ∧ w1 = w) ∧
  ∀ w1 : World, w1.heap = w.heap → w1.os = w.os → w1.tape = w.tape → w1.output = w.output → Calls Tryz.prog 50 #[ptr e.gq] w1 fun r w2 => r = .returned (.bool a) ∧ Cha w0 w2 gW WL.length RL.length (j + 1) := by
 have hI := h.rs i e hi
 have hP := h.mem.rd i e hi
 have a3 : (x 3)[i]? = some (ptr e.gr) := by rw [h.x3]; exact map_at hi
 have a4 : (x 4)[i]? = some (ptr e.gq) := by rw [h.x4]; exact map_at hi
 have l3 : (x 3).length = RL.length := by rw [h.x3, List.length_map]
 have l4 : (x 4).length = RL.length := by rw [h.x4, List.length_map]
 have hfew := hI.few
 refine ⟨decide (ansF e.N e.A = 0 ∧ (runF e.A).why = 0), h.mem.at (by omega) (by omega) a3 l3, h.mem.at (by omega) (by omega) a4 l4, mdone_any _ w0.heap.size e.gr e.N e.A e.R w hP.prog, fun w1 hh ho ht hp => ?_⟩
 have hD := hP.doc.frame (w' := w1) (by rw [hh]; exact Nat.le_refl _) (fun b _ => by rw [hh])
 refine (qdone_any _ e.gq e.gg e.N e.Ad e.d e.Rd w1 hD (by rw [hI.came]; omega)).mono ?_
 rintro r w2 ⟨hr, hb⟩
 have hk : Kw w w2 (Own w0.heap.size col (13 + 4 * i) w) := Kw.same (Kw.below hb) hh ho ht hp
 have m2 := h.mem.docR hi hk (hP.doc.frame hk.size (fun b z => by
  have q := hb.block b (by rw [hh]; exact z.2.1)
  rw [q, hh]))
 refine ⟨by rw [hr, hI.came, hI.died], h.setR hi m2 (hk.onto h.below (fun b z => z.1)) rfl rfl ⟨hI.n1, hI.came, hI.gone, hI.died, by show e.A.size ≤ _; omega⟩⟩
end
/- Channels: pick. -/
set_option maxRecDepth 4000 in
set_option maxHeartbeats 400000 in
theorem pickw_any (c : Int) (n : Nat) (w : World) (h0 : -9223372036854775808 ≤ c) (h1 : c ≤ 9223372036854775807) (hn : 0 < n) (hn2 : n ≤ 1000000000) :
 Calls Tryz.prog 25 #[.int .i64 c, .int .i64 (n : Nat)] w fun e w' => ∃ k : Nat, k < n ∧ e = .returned (.int .i64 (k : Nat)) ∧ w' = w := by
 have hnI : (n : Int) ≠ 0 := by omega
 have HF : Hid (∀ d : Int, 0 ≤ d → ∃ k : Nat, k < n ∧ Ending.returned (.int .i64 (d % (n : Int))) = .returned (.int .i64 (k : Nat)) ∧ w = w) := fun d hd => by
  have q0 := Int.emod_nonneg d hnI
  have q1 := Int.emod_lt_of_pos d (show (0 : Int) < n by omega)
  exact ⟨(d % (n : Int)).toNat, by omega, by rw [Int.toNat_of_nonneg q0], rfl⟩
 by_cases hc : c < 0
 ·
  have d1 : decide (c < 0) = true := by rw [decide_eq_true_iff]; exact hc
  go_enter Tryz.func25, Tryz.ntmps25
  go_wp2
  go_ret
  obtain ⟨k, hk, he, _⟩ := HF.out (-(c + 1)) (by omega)
  have e : -((c + 1).tmod (n : Int)) = (-(c + 1)) % (n : Int) := by rw [← Int.neg_tmod, Int.tmod_eq_emod_of_nonneg (by omega)]
  exact ⟨k, hk, by rw [← he, ← e]; rfl, rfl⟩
 ·
  have d1 : decide (c < 0) = false := by rw [decide_eq_false_iff_not]; exact hc
  go_enter Tryz.func25, Tryz.ntmps25
  go_wp2
  go_ret
  obtain ⟨k, hk, he, _⟩ := HF.out c (by omega)
  exact ⟨k, hk, he, rfl⟩
/- Channels: one writer more, one reader more: before the World's lists have them. -/
section
variable {B : Nat} {col : Nat → Nat} {w w1 w2 : World} {gW : Nat} {f : Nat → Value} {x : Nat → List Value} {WL : List We} {RL : List Re}
theorem last_cases {α : Type} {l : List α} {i : Nat} {e y : α} (h : (l ++ [e])[i]? = some y) : (i = l.length ∧ y = e) ∨ l[i]? = some y := by
 by_cases q : i < l.length
 · exact Or.inr (by rw [List.getElem?_append_left q] at h; exact h)
 ·
  rw [List.getElem?_append_right (by omega)] at h
  by_cases z : i - l.length = 0
  ·
   rw [z] at h
   exact Or.inl ⟨by omega, (Option.some.inj h).symm⟩
  ·
   rw [List.getElem?_eq_none (by simp; omega)] at h
   simp at h
/-- The new writers of a pair. -/
def newE (gx gv gu N : Nat) : We := ⟨gx, gv, gu, N, fun _ => [], 0, 0, [], 0, false, fun _ => [], vk0, .empty, 0⟩
/-- The new readers of a pair. -/
def newR (gx gq gg N : Nat) : Re := ⟨gx, gq, gg, N, .empty, fun _ => [], .empty, 0, fun _ => []⟩
theorem Wld.newW (h : Wld B col w gW f x WL RL) {gx gv gu N : Nat} (hm : MemW (fun b => w.heap.size ≤ b ∧ b < w1.heap.size) B w1 gx N (fun _ => []) 0 0 [] 0 false) (b1 : Below w.heap.size w w1) (hv : MemV (newV w1 w2) w2 gv gu N (fun _ => []) vk0) (b2 : Below w1.heap.size w1 w2) :
 ∃ col', Wld B col' w2 gW f x (WL ++ [newE gx gv gu N]) RL := by
 have k1 : Kw w w1 (Own B col (10 + 4 * WL.length) w) := Kw.below b1
 have m1 := h.other (id := 10 + 4 * WL.length) k1 (by omega) (fun s a b => by omega) (fun i hi => ⟨by omega, by omega⟩) (fun i _ => ⟨by omega, by omega⟩)
 have k2 : Kw w1 w2 (Own B (recol col (10 + 4 * WL.length) w) (11 + 4 * WL.length) w1) := Kw.below b2
 have m2 := m1.other (id := 11 + 4 * WL.length) k2 (by omega) (fun s a b => by omega) (fun i hi => ⟨by omega, by omega⟩) (fun i _ => ⟨by omega, by omega⟩)
 have hl := h.low
 have hl1 := m1.low
 have p1 : MemW (Own B (recol col (10 + 4 * WL.length) w) (10 + 4 * WL.length) w1) B w1 gx N (fun _ => []) 0 0 [] 0 false := hm.wide (fun b q => ⟨by omega, q.2, by unfold recol; rw [if_pos q.1]⟩) (fun b q => q.2.1)
 have p2 : MemW (Own B (recol (recol col (10 + 4 * WL.length) w) (11 + 4 * WL.length) w1) (10 + 4 * WL.length) w2) B w2 gx N (fun _ => []) 0 0 [] 0 false := by
  rw [own_other (by omega) k2.size]
  exact p1.frame k2.size (fun b q => k2.keeps (by omega) b q)
 have p3 : MemV (Own B (recol (recol col (10 + 4 * WL.length) w) (11 + 4 * WL.length) w1) (11 + 4 * WL.length) w2) w2 gv gu N (fun _ => []) vk0 := hv.wide (fun b q => ⟨by have := q.1; omega, q.2, by unfold recol; rw [if_pos q.1]⟩) (fun b q => q.2.1)
 refine ⟨_, m2.row, m2.own, m2.rows, fun i y hy => ?_, m2.rd, m2.low⟩
 rcases last_cases hy with ⟨rfl, rfl⟩ | hy
 · exact ⟨p2, p3⟩
 · exact m2.wr i y hy
theorem Wld.newR (h : Wld B col w gW f x WL RL) {gx gq gg N : Nat} (hm : MemA (fun b => w.heap.size ≤ b ∧ b < w1.heap.size) B w1 gx N .empty (fun _ => []) false) (b1 : Below w.heap.size w w1) (hv : MemQ (newV w1 w2) w2 gq gg N .empty 0 (fun _ => [])) (b2 : Below w1.heap.size w1 w2) :
 ∃ col', Wld B col' w2 gW f x WL (RL ++ [newR gx gq gg N]) := by
 have k1 : Kw w w1 (Own B col (12 + 4 * RL.length) w) := Kw.below b1
 have m1 := h.other (id := 12 + 4 * RL.length) k1 (by omega) (fun s a b => by omega) (fun i hi => ⟨by omega, by omega⟩) (fun i _ => ⟨by omega, by omega⟩)
 have k2 : Kw w1 w2 (Own B (recol col (12 + 4 * RL.length) w) (13 + 4 * RL.length) w1) := Kw.below b2
 have m2 := m1.other (id := 13 + 4 * RL.length) k2 (by omega) (fun s a b => by omega) (fun i hi => ⟨by omega, by omega⟩) (fun i _ => ⟨by omega, by omega⟩)
 have hl := h.low
 have hl1 := m1.low
 have p1 : MemR (Own B (recol col (12 + 4 * RL.length) w) (12 + 4 * RL.length) w1) B w1 gx N .empty (fun _ => []) := (memR_new hm).wide (fun b q => ⟨by omega, q.2, by unfold recol; rw [if_pos q.1]⟩) (fun b q => q.2.1)
 have p2 : MemR (Own B (recol (recol col (12 + 4 * RL.length) w) (13 + 4 * RL.length) w1) (12 + 4 * RL.length) w2) B w2 gx N .empty (fun _ => []) := by
  rw [own_other (by omega) k2.size]
  exact p1.frame k2.size (fun b q => k2.keeps (by omega) b q)
 have p3 : MemQ (Own B (recol (recol col (12 + 4 * RL.length) w) (13 + 4 * RL.length) w1) (13 + 4 * RL.length) w2) w2 gq gg N .empty 0 (fun _ => []) := hv.wide (fun b q => ⟨by have := q.1; omega, q.2, by unfold recol; rw [if_pos q.1]⟩) (fun b q => q.2.1)
 refine ⟨_, m2.row, m2.own, m2.rows, m2.wr, fun i y hy => ?_, m2.low⟩
 rcases last_cases hy with ⟨rfl, rfl⟩ | hy
 · exact ⟨p2, p3⟩
 · exact m2.rd i y hy
/-- They know the same. -/
theorem newE_I {gx gv gu N : Nat} (h1 : 1 ≤ N) (j : Nat) : WeI (newE gx gv gu N) j := ⟨h1, rfl, ⟨.empty, (wsI_new N).later (Nat.zero_le j)⟩, Nat.zero_le _⟩
theorem newR_I {gx gq gg N : Nat} (h1 : 1 ≤ N) (j : Nat) : ReI (Go.Proofs.YtecddphahiadlaaGreatDoor.newR gx gq gg N) j := ⟨h1, rfl, rfl, (ansF_empty N).symm, Nat.zero_le _⟩
end
end Go.Proofs.YtecddphahiadlaaGreatDoor
