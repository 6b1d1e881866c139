import Derived.Test.YtecddphahiadlaaGreatDoorCChaA
import Derived.Deep.RegionWith
import Derived.Deep.CutBlock
import Derived.BigRegion
import Derived.Deep.RegionHeld3
/- Channels: grows; the writers' calls side by side. -/
namespace Go.Proofs.YtecddphahiadlaaGreatDoor
open Go.RowKit
section
variable {w0 w : World} {col : Nat → Nat} {gW : Nat} {f : Nat → Value} {x : Nat → List Value} {WL : List We} {RL : List Re} {j : Nat}
/-- What is told of a writer beside memory. -/
theorem Wld.told {B : Nat} (h : Wld B col w gW f x WL RL) {i : Nat} {e : We} (hi : WL[i]? = some e) (had : ByteArray) (may : Nat) : Wld B col w gW f x (WL.set i { e with had := had, may := may }) RL := by
 refine ⟨h.row, h.own, h.rows, fun k y hy => ?_, h.rd, h.low⟩
 rcases set_cases hy with ⟨rfl, rfl⟩ | ⟨_, hy⟩
 · exact ⟨(h.wr k e hi).prog, (h.wr k e hi).doc⟩
 · exact h.wr k y hy
/-- What grows leaves. -/
def GrP (B : Nat) (w : World) (gW : Nat) (f : Nat → Value) (x : Nat → List Value) (WL : List We) (RL : List Re) (k m : Nat) (e : We) (r : Ending) (w' : World) : Prop :=
 r = .returned (.tuple #[]) ∧ (∃ col', Wld B col' w' gW f (fun t => if t = 6 then (x 6).set k (.int .i64 (m : Nat)) else x t) (WL.set k { e with may := m }) RL) ∧ Kw w w' (fun b => B ≤ b)
set_option maxRecDepth 8000 in
set_option maxHeartbeats 400000 in
theorem grows_any {B : Nat} (h : Wld B col w gW f x WL RL) {k : Nat} {e : We} (hi : WL[k]? = some e) (x2 : x 2 = WL.map (fun e : We => ptr e.gv)) (x6 : (x 6)[k]? = some (.int .i64 (e.may : Nat))) (l6 : (x 6).length = WL.length) (hm : e.may ≤ 1000000000000) (hl : e.k.last ≤ 1000000) :
 Calls Tryz.prog 43 #[ptr gW, .int .i64 (k : Nat)] w (GrP B w gW f x WL RL k (e.may + (e.k.last + e.k.last / 8 + 24)) e) := by
 obtain ⟨g2, cap2, a2, b2, _⟩ := h.get (s := 2) (by omega) (by omega) k (y := ptr e.gv) (by rw [x2]; exact map_at hi)
 obtain ⟨g6, cap6, a6, b6, z6, o6, v6⟩ := h.get (s := 6) (by omega) (by omega) k x6
 have hk : k < WL.length := (List.getElem?_eq_some_iff.1 hi).1
 have l2 : (x 2).length = WL.length := by rw [x2, List.length_map]
 have cl : w.cell? ⟨e.gv, 6, none⟩ = some (.int .i64 (e.k.last : Nat)) := ((h.wr k e hi).doc.cell 6 (by omega)).1
 have HF : Hid (∀ v : Int, v = ((e.may + (e.k.last + e.k.last / 8 + 24) : Nat) : Int) → GrP B w gW f x WL RL k (e.may + (e.k.last + e.k.last / 8 + 24)) e (.returned (.tuple #[])) (w.setCell ⟨g6, k, none⟩ (.int .i64 v)).drew) := fun v hv => by
  subst hv
  have m1 := h.set (s := 6) (by omega) (by omega) k (y := .int .i64 ((e.may + (e.k.last + e.k.last / 8 + 24) : Nat) : Int)) rfl v6 (by omega) o6
  have m2 := m1.other (id := 7) (Kw.refl _ _).drew (by omega) (fun s a b => by omega) (fun i _ => ⟨by omega, by omega⟩) (fun i _ => ⟨by omega, by omega⟩)
  exact ⟨rfl, ⟨_, (m2.told hi e.had (e.may + (e.k.last + e.k.last / 8 + 24)))⟩, (kw_set (W := fun b => B ≤ b) w _ o6.1).drew⟩
 generalize GrP B w gW f x WL RL k (e.may + (e.k.last + e.k.last / 8 + 24)) e = P at HF ⊢
 rw [l2] at a2
 rw [l6] at a6
 have hkI : (k : Int) < (WL.length : Int) := by omega
 have q3 : 2 + 1 = 3 := rfl
 have q7 : 6 + 1 = 7 := rfl
 rw [q3] at a2
 rw [q7] at a6
 clear q3 q7
 generalize WL.length = nW at *
 generalize e.gv = gv at *
 generalize e.may = may at *
 generalize e.k.last = la at *
 unfold ptr at *
 clear h x2 x6 l2 l6 hi o6 v6 hk
 go_enter Tryz.func43, Tryz.ntmps43
 go_wp2_with fail
 go_region
 refine bodyPost_ret (results_none rfl _ _ _) rfl ?_
 exact HF.out _ (by omega)
/-- A pair of writers goes on. -/
theorem ChaS.setW (h : ChaS w0 col w gW f x WL RL j) {col' : Nat → Nat} {w' : World} {f' : Nat → Value} {x' : Nat → List Value} {i : Nat} {e e' : We} (hi : WL[i]? = some e) (hm : Wld w0.heap.size col' w' gW f' x' (WL.set i e') RL) (hb : Below w0.heap.size w0 w') (h1 : x' 1 = x 1) (h2 : x' 2 = x 2) (h3 : x' 3 = x 3) (h4 : x' 4 = x 4)
 (h5 : x' 5 = (WL.set i e').map (fun e : We => Value.string e.had)) (h6 : x' 6 = (WL.set i e').map (fun e : We => Value.int .i64 ((e.may : Nat) : Int))) (hw : e'.gw = e.gw) (hv : e'.gv = e.gv) (hI : WeI e' (j + 1)) : Cha w0 w' gW WL.length RL.length (j + 1) :=
 ⟨col', f', x', WL.set i e', RL, ⟨hm, hb, by rw [h1, map_set_same hi (by rw [hw])]; exact h.x1, by rw [h2, map_set_same hi (by rw [hv])]; exact h.x2, by rw [h3]; exact h.x3, by rw [h4]; exact h.x4, h5, h6, fun k y hy => by
  rcases set_cases hy with ⟨_, rfl⟩ | ⟨_, hy⟩
  · exact hI
  · exact (h.ws k y hy).later (Nat.le_succ j), fun k y hy => (h.rs k y hy).later (Nat.le_succ j), by rw [List.length_set]; have := h.many; omega⟩, List.length_set, rfl⟩
/-- Nothing more may come than before. -/
theorem ChaS.setW0 (h : ChaS w0 col w gW f x WL RL j) {col' : Nat → Nat} {w' : World} {i : Nat} {e e' : We} (hi : WL[i]? = some e) (hm : Wld w0.heap.size col' w' gW f x (WL.set i e') RL) (hb : Below w0.heap.size w0 w') (hh : e'.had = e.had) (hmy : e'.may = e.may) (hw : e'.gw = e.gw) (hv : e'.gv = e.gv) (hI : WeI e' (j + 1)) : Cha w0 w' gW WL.length RL.length (j + 1) :=
 h.setW hi hm hb rfl rfl rfl rfl (by rw [map_set_same hi (by rw [hh])]; exact h.x5) (by rw [map_set_same hi (by rw [hmy])]; exact h.x6) hw hv hI
theorem ChaS.atW (h : ChaS w0 col w gW f x WL RL j) {i : Nat} {e : We} (hi : WL[i]? = some e) : At w gW 2 i WL.length (ptr e.gw) ∧ At w gW 3 i WL.length (ptr e.gv) :=
 ⟨h.mem.at (s := 1) (by omega) (by omega) (by rw [h.x1]; exact map_at hi) (by rw [h.x1, List.length_map]), h.mem.at (s := 2) (by omega) (by omega) (by rw [h.x2]; exact map_at hi) (by rw [h.x2, List.length_map])⟩
/-- Both Writes. -/
theorem ChaS.writeX (h : ChaS w0 col w gW f x WL RL j) {i : Nat} {e : We} (hi : WL[i]? = some e) (c : Int) (S : ByteArray) (hS : S.size ≤ 6000000) :
 ∃ m a : Nat, (∀ c' : Nat, c = (c' : Int) → c' < e.N → e.closed = false → m = takenN (e.Q c').length e.tk S.size ∧ a = 0) ∧ Calls Tryz.prog 11 #[ptr e.gw, .int .i64 c, .string S] w fun r w1 => r = .returned (.tuple #[.int .i64 (m : Int), .int .i64 (a : Int)]) ∧ (∀ b s, s < 10 → Own w0.heap.size col s w b → w1.heap[b]? = w.heap[b]?) ∧
  ∀ wz : World, wz.heap = w1.heap → wz.os = w1.os → wz.tape = w1.tape → wz.output = w1.output → Calls Tryz.prog 23 #[ptr e.gv, .int .i64 c, .string S] wz fun r w2 => r = .returned (.tuple #[.int .i64 (m : Int), .int .i64 (a : Int)]) ∧ (∀ b s, s < 10 → Own w0.heap.size col s w b → w2.heap[b]? = w.heap[b]?) ∧ Cha w0 w2 gW WL.length RL.length (j + 1) := by
 have hI := h.ws i e hi
 have hP := h.mem.wr i e hi
 obtain ⟨X, hX⟩ := hI.rel
 by_cases q : c < 0 ∨ (e.N : Int) ≤ c
 ·
  refine ⟨0, 4, fun c' h1 h2 _ => by omega, ?_⟩
  refine (write_bad _ w0.heap.size e.gw e.N e.Q e.tk e.wd e.L e.n e.closed c S w hP.prog q).mono ?_
  rintro r w1 ⟨hr, rfl⟩
  refine ⟨hr, fun _ _ _ _ => rfl, fun wz hh hos ht hp => ?_⟩
  have hD := hP.doc.frame (w' := wz) (by rw [hh]; exact Nat.le_refl _) (fun b _ => by rw [hh])
  refine (vwrite_bad _ e.gv e.gu e.N e.Qd e.k c S wz hD q).mono ?_
  rintro r w2 ⟨hr, rfl⟩
  exact ⟨hr, fun _ _ _ _ => by rw [hh], (h.made ⟨hos, ht, hp, by rw [hh]; exact Nat.le_refl _, fun b _ => by rw [hh]⟩).laterC⟩
 ·
  obtain ⟨c', rfl⟩ : ∃ c' : Nat, c = (c' : Int) := ⟨c.toNat, by omega⟩
  have hc : c' < e.N := by omega
  by_cases hcl : e.closed = true
  ·
   refine ⟨0, 5, fun _ _ _ h3 => by rw [hcl] at h3; simp at h3, ?_⟩
   have hp := hP.prog
   rw [hcl] at hp
   refine (write_closed _ w0.heap.size e.gw e.N e.Q e.tk e.wd e.L e.n c' S w hp hc).mono ?_
   rintro r w1 ⟨hr, rfl⟩
   refine ⟨hr, fun _ _ _ _ => rfl, fun wz hh hos ht hp => ?_⟩
   have hD := hP.doc.frame (w' := wz) (by rw [hh]; exact Nat.le_refl _) (fun b _ => by rw [hh])
   refine (vwrite_shut _ e.gv e.gu e.N e.Qd e.k c' S wz hD hc (by rw [hX.shut]; exact hcl)).mono ?_
   rintro r w2 ⟨hr, rfl⟩
   exact ⟨hr, fun _ _ _ _ => by rw [hh], (h.made ⟨hos, ht, hp, by rw [hh]; exact Nat.le_refl _, fun b _ => by rw [hh]⟩).laterC⟩
  ·
   have hcf : e.closed = false := by simpa using hcl
   have hp := hP.prog
   rw [hcf] at hp
   refine ⟨takenN (e.Q c').length e.tk S.size, 0, fun c2 h1 _ _ => by rw [show c2 = c' by omega]; exact ⟨rfl, rfl⟩, ?_⟩
   refine (write_open _ w0.heap.size e.gw e.N e.Q e.tk e.wd e.L e.n c' S w hp hc (hX.few c' hc) hX.most h.mem.low (by omega)).mono ?_
   rintro r w1 ⟨hr, hk, hm1⟩
   have m1 := h.mem.progW hi hk hm1
   have b1 := hk.onto h.below (fun b z => z.1)
   refine ⟨hr, fun b s hs q => hk.keeps (by omega) b q, fun wz hh hos ht hp => ?_⟩
   have hi1 := set_at { e with Q := fun d => if d = c' then e.Q c' ++ S.data.toList.take (takenN (e.Q c').length e.tk S.size) else e.Q d, tk := e.tk + takenN (e.Q c').length e.tk S.size, wd := e.wd, L := e.L, n := e.n, closed := false } hi
   have hP2 : MemV (Own w0.heap.size (recol col (10 + 4 * i) w) (11 + 4 * i) w1) w1 e.gv e.gu e.N e.Q e.k := by
    have := (m1.wr i _ hi1).doc
    simp only [hI.same] at this
    exact this
   have hP3 := hP2.frame (w' := wz) (by rw [hh]; exact Nat.le_refl _) (fun b _ => by rw [hh])
   have q1 := vwrite_any _ e.gv e.gu e.N e.Q e.k c' S wz hP3 hc (by rw [hX.shut]; exact hcf) (hX.few c' hc) (by rw [hX.taken]; exact hX.most) (by omega)
   rw [hX.taken] at q1
   refine q1.mono ?_
   rintro r2 w2 ⟨hr2, hk3, hm2⟩
   have hk2 := hk3.same hh hos ht hp
   have m2 := m1.docW hi1 hk2 hm2
   rw [List.set_set] at m2
   rw [hcf] at hX
   refine ⟨hr2, fun b s hs q => (hk2.keeps (by omega) b (own_same q (by omega) hk.size)).trans (hk.keeps (by omega) b q), h.setW0 hi m2 (hk2.onto b1 (fun b z => z.1)) rfl rfl rfl rfl ⟨hI.n1, rfl, ⟨X, (hX.wrote c' hc S _ rfl).later (Nat.le_succ j)⟩, by show e.may ≤ _; have := hI.may; omega⟩⟩
theorem ChaS.write (h : ChaS w0 col w gW f x WL RL j) {i : Nat} {e : We} (hi : WL[i]? = some e) (c : Int) (S : ByteArray) (hS : S.size ≤ 6000000) :
 ∃ m a : Nat, Calls Tryz.prog 11 #[ptr e.gw, .int .i64 c, .string S] w fun r w1 => r = .returned (.tuple #[.int .i64 (m : Int), .int .i64 (a : Int)]) ∧ (∀ b s, s < 10 → Own w0.heap.size col s w b → w1.heap[b]? = w.heap[b]?) ∧
  ∀ wz : World, wz.heap = w1.heap → wz.os = w1.os → wz.tape = w1.tape → wz.output = w1.output → Calls Tryz.prog 23 #[ptr e.gv, .int .i64 c, .string S] wz fun r w2 => r = .returned (.tuple #[.int .i64 (m : Int), .int .i64 (a : Int)]) ∧ (∀ b s, s < 10 → Own w0.heap.size col s w b → w2.heap[b]? = w.heap[b]?) ∧ Cha w0 w2 gW WL.length RL.length (j + 1) := by
 obtain ⟨m, a, _, r⟩ := h.writeX hi c S hS
 exact ⟨m, a, r⟩
end
/- Channels: Flush, Tick, Close side by side. -/
section
variable {w0 w : World} {col : Nat → Nat} {gW : Nat} {f : Nat → Value} {x : Nat → List Value} {WL : List We} {RL : List Re} {j : Nat}
/-- A writer sent, and its stream may be longer. -/
theorem ChaS.grown (h : ChaS w0 col w gW f x WL RL j) {i : Nat} {e e2 : We} (hi : WL[i]? = some e) {col2 : Nat → Nat} {w2 : World} (m2 : Wld w0.heap.size col2 w2 gW f x (WL.set i e2) RL) (b2 : Below w0.heap.size w0 w2) (hw : e2.gw = e.gw) (hv : e2.gv = e.gv) (hh : e2.had = e.had) (hmy : e2.may = e.may) (hl : e2.k.last ≤ 4500) (hj : j ≤ 2000000)
 (hI : e2.may ≤ 10000 * j → WeI { e2 with may := e2.may + (e2.k.last + e2.k.last / 8 + 24) } (j + 1)) :
 Calls Tryz.prog 43 #[ptr gW, .int .i64 (i : Nat)] w2 fun r w3 => r = .returned (.tuple #[]) ∧ Cha w0 w3 gW WL.length RL.length (j + 1) := by
 have hi2 := set_at e2 hi
 have hmay := (h.ws i e hi).may
 have x2 : x 2 = (WL.set i e2).map (fun e : We => ptr e.gv) := by rw [map_set_same hi (by rw [hv])]; exact h.x2
 have x6 : x 6 = (WL.set i e2).map (fun e : We => Value.int .i64 ((e.may : Nat) : Int)) := by rw [map_set_same hi (by rw [hmy])]; exact h.x6
 refine (grows_any m2 hi2 x2 (by rw [x6]; exact map_at hi2) (by rw [x6, List.length_map]) (by omega) (by omega)).mono ?_
 rintro r w3 ⟨hr, ⟨col3, m3⟩, hk3⟩
 rw [List.set_set] at m3
 refine ⟨hr, h.setW hi m3 (hk3.onto b2 (fun b z => z)) rfl rfl rfl rfl ?_ ?_ hw hv (hI (by omega))⟩
 · rw [map_set_same hi (by show Value.string e2.had = _; rw [hh])]; exact h.x5
 ·
  show (x 6).set i _ = _
  rw [x6, List.map_set, List.map_set, List.set_set]
/-- How much may wait. -/
theorem WsI.sum {N : Nat} {Q : Nat → List UInt8} {tk wd : Nat} {L : List UInt8} {n : Nat} {closed : Bool} {k : Vk} {had : ByteArray} {may : Nat} {X : ByteArray} {j : Nat} (h : WsI N Q tk wd L n closed k had may X j) : sumL N Q ≤ 1500 := by
 have := h.sums
 have := h.most
 omega
/-- Both Flushes. -/
theorem ChaS.flush (h : ChaS w0 col w gW f x WL RL j) {i : Nat} {e : We} (hi : WL[i]? = some e) (hj : j ≤ 2000000) :
 (Calls Tryz.prog 14 #[ptr e.gw] w fun r w1 => r = .returned (.int .i64 5) ∧
  Calls Tryz.prog 42 #[ptr e.gv] w1 fun r w2 => r = .returned (.int .i64 5) ∧ Cha w0 w2 gW WL.length RL.length (j + 1)) ∨
 (Calls Tryz.prog 14 #[ptr e.gw] w fun r w1 => r = .returned (.int .i64 0) ∧
  Calls Tryz.prog 42 #[ptr e.gv] w1 fun r w2 => r = .returned (.int .i64 0) ∧
   Calls Tryz.prog 43 #[ptr gW, .int .i64 (i : Nat)] w2 fun r w3 => r = .returned (.tuple #[]) ∧ Cha w0 w3 gW WL.length RL.length (j + 1)) := by
 have hI := h.ws i e hi
 have hP := h.mem.wr i e hi
 obtain ⟨X, hX⟩ := hI.rel
 have hsz := hX.size
 have hsu := hX.sum
 have hnn := hX.nn
 have hco := hX.count
 by_cases hcl : e.closed = true
 ·
  refine Or.inl ?_
  have hp := hP.prog
  rw [hcl] at hp
  refine (flush_closed _ w0.heap.size e.gw e.N e.Q e.tk e.wd e.L e.n w hp).mono ?_
  rintro r w1 ⟨hr, rfl⟩
  refine ⟨hr, ?_⟩
  refine (vflush_shut _ e.gv e.gu e.N e.Qd e.k w1 hP.doc (by rw [hX.shut]; exact hcl)).mono ?_
  rintro r w2 ⟨hr, rfl⟩
  exact ⟨hr, h.laterC⟩
 ·
  have hcf : e.closed = false := by simpa using hcl
  have hp := hP.prog
  rw [hcf] at hp hX
  refine Or.inr ?_
  refine (flush_open _ w0.heap.size e.gw e.N e.Q e.tk e.wd e.L e.n w hp hI.n1 (by omega) h.mem.low (by omega)).mono ?_
  rintro r w1 ⟨T, S, hr, hcu, htb, hpo, hk, hm1⟩
  have m1 := h.mem.progW hi hk hm1
  have b1 := hk.onto h.below (fun b z => z.1)
  refine ⟨hr, ?_⟩
  have hi1 := set_at { e with Q := fun _ => [], tk := e.tk, wd := 0, L := e.L ++ S.data.toList, n := e.n + S.size, closed := false } hi
  have hP2 : MemV (Own w0.heap.size (recol col (10 + 4 * i) w) (11 + 4 * i) w1) w1 e.gv e.gu e.N e.Q e.k := by
   have := (m1.wr i _ hi1).doc
   simp only [hI.same] at this
   exact this
  refine (vflush_any _ e.gv e.gu e.N e.Q e.k w1 hP2 hX.shut (by omega) (by omega) (by omega)).mono ?_
  rintro r2 w2 ⟨hr2, hk2, hm2⟩
  have m2 := m1.docW hi1 hk2 hm2
  rw [List.set_set] at m2
  have hTs : (cutG e.N e.Q).length = T.size := by rw [← hcu.2, ← size_list]
  refine ⟨hr2, h.grown hi m2 (hk2.onto b1 (fun b z => z.1)) rfl rfl rfl rfl (by show (cutG e.N e.Q).length ≤ _; omega) hj (fun hmy => ⟨hI.n1, rfl, ⟨X ++ S, ?_⟩, ?_⟩)⟩
  ·
   have q := hX.flushed hcu htb hpo ((cutG e.N e.Q).length + (cutG e.N e.Q).length / 8 + 24) (by rw [hTs]; exact Nat.le_refl _) e.k.time (by have := hX.time; omega)
   exact q
  ·
   show e.may + ((cutG e.N e.Q).length + (cutG e.N e.Q).length / 8 + 24) ≤ _
   have hmy2 : e.may ≤ 10000 * j := hmy
   omega
/-- Both Closes. -/
theorem ChaS.close (h : ChaS w0 col w gW f x WL RL j) {i : Nat} {e : We} (hi : WL[i]? = some e) (hj : j ≤ 2000000) :
 (Calls Tryz.prog 12 #[ptr e.gw] w fun r w1 => r = .returned (.int .i64 5) ∧
  Calls Tryz.prog 45 #[ptr e.gv] w1 fun r w2 => r = .returned (.int .i64 5) ∧ Cha w0 w2 gW WL.length RL.length (j + 1)) ∨
 (Calls Tryz.prog 12 #[ptr e.gw] w fun r w1 => r = .returned (.int .i64 0) ∧
  Calls Tryz.prog 45 #[ptr e.gv] w1 fun r w2 => r = .returned (.int .i64 0) ∧
   Calls Tryz.prog 43 #[ptr gW, .int .i64 (i : Nat)] w2 fun r w3 => r = .returned (.tuple #[]) ∧ Cha w0 w3 gW WL.length RL.length (j + 1)) := by
 have hI := h.ws i e hi
 have hP := h.mem.wr i e hi
 obtain ⟨X, hX⟩ := hI.rel
 have hsz := hX.size
 have hsu := hX.sum
 have hnn := hX.nn
 have hco := hX.count
 by_cases hcl : e.closed = true
 ·
  refine Or.inl ?_
  have hp := hP.prog
  rw [hcl] at hp
  refine (close_closed _ w0.heap.size e.gw e.N e.Q e.tk e.wd e.L e.n w hp).mono ?_
  rintro r w1 ⟨hr, rfl⟩
  refine ⟨hr, ?_⟩
  refine (vclose_shut _ e.gv e.gu e.N e.Qd e.k w1 hP.doc (by rw [hX.shut]; exact hcl)).mono ?_
  rintro r w2 ⟨hr, rfl⟩
  exact ⟨hr, h.laterC⟩
 ·
  have hcf : e.closed = false := by simpa using hcl
  have hp := hP.prog
  rw [hcf] at hp hX
  refine Or.inr ?_
  refine (close_open _ w0.heap.size e.gw e.N e.Q e.tk e.wd e.L e.n w hp hI.n1 (by omega) h.mem.low (by omega)).mono ?_
  rintro r w1 ⟨T, S, hr, hcu, htb, hpo, hk, hm1⟩
  have m1 := h.mem.progW hi hk hm1
  have b1 := hk.onto h.below (fun b z => z.1)
  refine ⟨hr, ?_⟩
  have hi1 := set_at { e with Q := fun _ => [], tk := e.tk, wd := 0, L := e.L ++ S.data.toList, n := e.n + S.size, closed := true } hi
  have hP2 : MemV (Own w0.heap.size (recol col (10 + 4 * i) w) (11 + 4 * i) w1) w1 e.gv e.gu e.N e.Q e.k := by
   have := (m1.wr i _ hi1).doc
   simp only [hI.same] at this
   exact this
  refine (vclose_any _ e.gv e.gu e.N e.Q e.k w1 hP2 hX.shut (by omega) (by omega) (by omega)).mono ?_
  rintro r2 w2 ⟨hr2, hk2, hm2⟩
  have m2 := m1.docW hi1 hk2 hm2
  rw [List.set_set] at m2
  have hTs : (cutG e.N e.Q).length = T.size := by rw [← hcu.2, ← size_list]
  refine ⟨hr2, h.grown hi m2 (hk2.onto b1 (fun b z => z.1)) rfl rfl rfl rfl (by show (cutG e.N e.Q).length ≤ _; omega) hj (fun hmy => ⟨hI.n1, rfl, ⟨X ++ S, ?_⟩, ?_⟩)⟩
  ·
   have q := hX.ended hcu htb hpo ((cutG e.N e.Q).length + (cutG e.N e.Q).length / 8 + 24) (by rw [hTs]; exact Nat.le_refl _)
   exact q
  ·
   show e.may + ((cutG e.N e.Q).length + (cutG e.N e.Q).length / 8 + 24) ≤ _
   have hmy2 : e.may ≤ 10000 * j := hmy
   omega
/-- Both Ticks. -/
theorem ChaS.tick (h : ChaS w0 col w gW f x WL RL j) {i : Nat} {e : We} (hi : WL[i]? = some e) (hj : j ≤ 2000000) :
 (Calls Tryz.prog 20 #[ptr e.gw] w fun r w1 => r = .returned (.tuple #[]) ∧
  Calls Tryz.prog 44 #[ptr e.gv] w1 fun r w2 => r = .returned (.bool false) ∧ Cha w0 w2 gW WL.length RL.length (j + 1)) ∨
 (Calls Tryz.prog 20 #[ptr e.gw] w fun r w1 => r = .returned (.tuple #[]) ∧
  Calls Tryz.prog 44 #[ptr e.gv] w1 fun r w2 => r = .returned (.bool true) ∧
   Calls Tryz.prog 43 #[ptr gW, .int .i64 (i : Nat)] w2 fun r w3 => r = .returned (.tuple #[]) ∧ Cha w0 w3 gW WL.length RL.length (j + 1)) := by
 have hI := h.ws i e hi
 have hP := h.mem.wr i e hi
 obtain ⟨X, hX⟩ := hI.rel
 have hsz := hX.size
 have hsu := hX.sum
 have hnn := hX.nn
 have hco := hX.count
 have hti := hX.time
 have hsi := hX.since
 have hw2 := hX.wd2
 have htk := hX.tick
 by_cases hs : sumL e.N e.Q = 0
 ·
  refine Or.inl ?_
  refine (tick_none _ w0.heap.size e.gw e.N e.Q e.tk e.wd e.L e.n e.closed w hP.prog hs).mono ?_
  rintro r w1 ⟨hr, rfl⟩
  refine ⟨hr, ?_⟩
  have hd := hP.doc
  rw [hI.same] at hd
  rw [decide_eq_false (by omega)] at htk
  refine (vtick_any _ e.gv e.gu e.N e.Q e.k w1 hd (by omega) (by omega) (by omega) (by omega) (by omega)).mono ?_
  rintro r w2 ⟨hr, hk2, _, hm2⟩
  have m2 := h.mem.docW hi hk2 (hm2 htk)
  refine ⟨by rw [hr, htk], h.setW0 hi m2 (hk2.onto h.below (fun b z => z.1)) rfl rfl rfl rfl ⟨hI.n1, rfl, ⟨X, hX.ticked e.wd (Or.inl ⟨hs, rfl⟩)⟩, by show e.may ≤ _; have := hI.may; omega⟩⟩
 ·
  have hcf : e.closed = false := by
   cases hc : e.closed with
   | false => rfl
   | true => exact absurd (sumL_none e.N e.Q (hX.none hc)) hs
  have hp := hP.prog
  rw [hcf] at hp hX
  have hT := tick_some _ w0.heap.size e.gw e.N e.Q e.tk e.wd e.L e.n w hp (by omega) hI.n1 (by omega) h.mem.low (by omega) hw2
  by_cases h2 : e.wd = 2
  ·
   refine Or.inr ?_
   rw [decide_eq_true ⟨by omega, h2⟩] at htk
   refine hT.mono ?_
   rintro r w1 ⟨hr, hk, _, hm1⟩
   obtain ⟨T, S, hcu, htb, hpo, hm1⟩ := hm1 h2
   have m1 := h.mem.progW hi hk hm1
   have b1 := hk.onto h.below (fun b z => z.1)
   refine ⟨hr, ?_⟩
   have hi1 := set_at { e with Q := fun _ => [], tk := e.tk, wd := 0, L := e.L ++ S.data.toList, n := e.n + S.size, closed := false } hi
   have hP2 : MemV (Own w0.heap.size (recol col (10 + 4 * i) w) (11 + 4 * i) w1) w1 e.gv e.gu e.N e.Q e.k := by
    have := (m1.wr i _ hi1).doc
    simp only [hI.same] at this
    exact this
   refine (vtick_any _ e.gv e.gu e.N e.Q e.k w1 hP2 (by omega) (by omega) (by omega) (by omega) (by omega)).mono ?_
   rintro r2 w2 ⟨hr2, hk2, hm2, _⟩
   have m2 := m1.docW hi1 hk2 (hm2 htk)
   rw [List.set_set] at m2
   have hTs : (cutG e.N e.Q).length = T.size := by rw [← hcu.2, ← size_list]
   refine ⟨by rw [hr2, htk], h.grown hi m2 (hk2.onto b1 (fun b z => z.1)) rfl rfl rfl rfl (by show (cutG e.N e.Q).length ≤ _; omega) hj (fun hmy => ⟨hI.n1, rfl, ⟨X ++ S, ?_⟩, ?_⟩)⟩
   ·
    have q := hX.flushed hcu htb hpo ((cutG e.N e.Q).length + (cutG e.N e.Q).length / 8 + 24) (by rw [hTs]; exact Nat.le_refl _) (e.k.time + 1) (by omega)
    exact q
   ·
    show e.may + ((cutG e.N e.Q).length + (cutG e.N e.Q).length / 8 + 24) ≤ _
    have hmy2 : e.may ≤ 10000 * j := hmy
    omega
  ·
   refine Or.inl ?_
   rw [decide_eq_false (by omega)] at htk
   refine hT.mono ?_
   rintro r w1 ⟨hr, hk, hm1, _⟩
   have m1 := h.mem.progW hi hk (hm1 (by omega))
   have b1 := hk.onto h.below (fun b z => z.1)
   refine ⟨hr, ?_⟩
   have hi1 := set_at { e with Q := e.Q, tk := e.tk, wd := e.wd + 1, L := e.L, n := e.n, closed := false } hi
   have hP2 : MemV (Own w0.heap.size (recol col (10 + 4 * i) w) (11 + 4 * i) w1) w1 e.gv e.gu e.N e.Q e.k := by
    have := (m1.wr i _ hi1).doc
    simp only [hI.same] at this
    exact this
   refine (vtick_any _ e.gv e.gu e.N e.Q e.k w1 hP2 (by omega) (by omega) (by omega) (by omega) (by omega)).mono ?_
   rintro r2 w2 ⟨hr2, hk2, _, hm2⟩
   have m2 := m1.docW hi1 hk2 (hm2 htk)
   rw [List.set_set] at m2
   refine ⟨by rw [hr2, htk], h.setW0 hi m2 (hk2.onto b1 (fun b z => z.1)) rfl rfl rfl rfl ⟨hI.n1, rfl, ⟨X, hX.ticked (e.wd + 1) (Or.inr ⟨by omega, by omega, rfl⟩)⟩, by show e.may ≤ _; have := hI.may; omega⟩⟩
end
/- Channels: feeds, reads. -/
section
variable {w0 w : World} {col : Nat → Nat} {gW : Nat} {f : Nat → Value} {x : Nat → List Value} {WL : List We} {RL : List Re} {j : Nat}
set_option maxRecDepth 8000 in
set_option maxHeartbeats 400000 in
theorem ChaS.feeds (h : ChaS w0 col w gW f x WL RL j) {i : Nat} (hi : i < RL.length) (S : ByteArray) (hS : S.size ≤ 6000000) (hj : j ≤ 2000000) (h0 : 1 < w0.heap.size) (hord : OrdIn w0 1) :
 Calls Tryz.prog 47 #[ptr gW, .int .i64 (i : Nat), .string S] w fun r w' => r = .returned (.bool true) ∧ Cha w0 w' gW WL.length RL.length (j + 1) := by
 obtain ⟨a, ⟨g1, cap1, a1, b1⟩, HC0⟩ := h.feed (List.getElem?_eq_getElem hi) S hS hj h0 hord
 have HC : Hid (_) := HC0
 have hil : (i : Int) < (RL.length : Int) := by omega
 clear HC0 h
 generalize RL[i].gr = gr at HC b1
 generalize RL[i].gq = gq at HC
 generalize WL.length = nW at *
 generalize RL.length = nR at *
 unfold ptr at *
 go_enter Tryz.func47, Tryz.ntmps47
 go_wp2_with fail
 refine Calls.mono HC.out ?_
 rintro r w1 ⟨rfl, ⟨g2, cap2, a2, b2⟩, HD0⟩
 have HD : Hid (_) := HD0
 clear HC HD0 a1 b1
 go_wp2_with fail
 refine Calls.mono HD.out ?_
 rintro r w2 ⟨rfl, hQ⟩
 have HQ : Hid (_) := hQ
 clear HD hQ a2 b2
 go_wp2_with fail
 refine (numc_any _ _).mono ?_
 rintro r w3 ⟨rfl, rfl⟩
 go_wp2
 go_ret
 exact ⟨rfl, HQ.out⟩
/-- A place, as it was and as it is when something is made. -/
theorem Wld.atB {B : Nat} (h : Wld B col w gW f x WL RL) {s : Nat} (hs1 : 1 ≤ s) (hs6 : s ≤ 6) {i : Nat} {v : Value} (hv : (x s)[i]? = some v) {n : Nat} (hn : (x s).length = n) {w' : World} (hb : Below w.heap.size w w') :
 ∃ g cap, w.cell? ⟨gW, s + 1, none⟩ = some (.slice (some ⟨g, 0, none⟩) n cap) ∧ w.cell? ⟨g, i, none⟩ = some v ∧ w'.cell? ⟨gW, s + 1, none⟩ = some (.slice (some ⟨g, 0, none⟩) n cap) ∧ w'.cell? ⟨g, i, none⟩ = some v := by
 obtain ⟨g, cap, h1, h2, _, ho, _⟩ := h.get hs1 hs6 i hv
 rw [hn] at h1
 exact ⟨g, cap, h1, h2, (hb.cell (p := ⟨gW, s + 1, none⟩) h.own.2.1).trans h1, (hb.cell (p := ⟨g, i, none⟩) ho.2.1).trans h2⟩
/-- A step as it is given. -/
def opV (kd a b wh : Int) (S : ByteArray) : Value := .agg #[.int .i64 kd, .int .i64 a, .int .i64 b, .int .i64 wh, .string S]
/-- A step comes in, and an order is drawn. -/
theorem ChaS.op (h : ChaS w0 col w gW f x WL RL j) (o : Obj) : ∃ col2, ChaS w0 col2 (w.alloc o).drew gW f x WL RL j ∧ Own w0.heap.size col2 7 (w.alloc o).drew w.heap.size ∧ (∀ s b, s < 7 → Own w0.heap.size col s w b → Own w0.heap.size col2 s (w.alloc o).drew b ∧ (w.alloc o).drew.heap[b]? = w.heap[b]?) := by
 have hb : Below w.heap.size w (w.alloc o).drew := by
  have := (Below.refl w.heap.size w).alloc (Nat.le_refl _) o
  exact ⟨this.os, this.tape, this.output, this.size, this.block⟩
 refine ⟨recol col 7 w, h.made hb, ⟨h.mem.low, ?_, ?_⟩, fun s b hs q => ⟨own_same q (by omega) hb.size, hb.block b q.2.1⟩⟩
 ·
  show w.heap.size < (w.alloc o).heap.size
  simp
 ·
  unfold recol
  rw [if_pos (Nat.le_refl _)]
/-- The cells that a Read of both sides looks at stay. -/
theorem ChaS.readK (h : ChaS w0 col w gW f x WL RL j) {i : Nat} {e : Re} (hi : RL[i]? = some e) (kd a b wh : Int) (S : ByteArray) {col2 : Nat → Nat} (hop : Own w0.heap.size col2 7 (w.alloc (.cells #[.int .i64 kd, .int .i64 a, .int .i64 b, .int .i64 wh, .string S] 28)).drew w.heap.size)
 (ho : ∀ s b', s < 7 → Own w0.heap.size col s w b' → Own w0.heap.size col2 s (w.alloc (.cells #[.int .i64 kd, .int .i64 a, .int .i64 b, .int .i64 wh, .string S] 28)).drew b' ∧ (w.alloc (.cells #[.int .i64 kd, .int .i64 a, .int .i64 b, .int .i64 wh, .string S] 28)).drew.heap[b']? = w.heap[b']?) :
 ∃ g1 cap1 g2 cap2, (w.cell? ⟨gW, 4, none⟩ = some (.slice (some ⟨g1, 0, none⟩) RL.length cap1) ∧ w.cell? ⟨g1, i, none⟩ = some (ptr e.gr)) ∧
  ∀ w1 : World, (∀ b' s, s < 10 → Own w0.heap.size col2 s (w.alloc (.cells #[.int .i64 kd, .int .i64 a, .int .i64 b, .int .i64 wh, .string S] 28)).drew b' → w1.heap[b']? = (w.alloc (.cells #[.int .i64 kd, .int .i64 a, .int .i64 b, .int .i64 wh, .string S] 28)).drew.heap[b']?) →
   (w1.cell? ⟨gW, 4, none⟩ = some (.slice (some ⟨g1, 0, none⟩) RL.length cap1) ∧ w1.cell? ⟨g1, i, none⟩ = some (ptr e.gr) ∧ w1.cell? ⟨w.heap.size, 1, none⟩ = some (.int .i64 a) ∧ w1.cell? ⟨w.heap.size, 2, none⟩ = some (.int .i64 b)) ∧
   (w1.cell? ⟨gW, 5, none⟩ = some (.slice (some ⟨g2, 0, none⟩) RL.length cap2) ∧ w1.cell? ⟨g2, i, none⟩ = some (ptr e.gq) ∧ w1.cell? ⟨w.heap.size, 1, none⟩ = some (.int .i64 a) ∧ w1.cell? ⟨w.heap.size, 2, none⟩ = some (.int .i64 b)) := by
 obtain ⟨g1, cap1, p1, q1, _, o1, _⟩ := h.mem.get (s := 3) (by omega) (by omega) i (y := ptr e.gr) (by rw [h.x3]; exact map_at hi)
 obtain ⟨g2, cap2, p2, q2, _, o2, _⟩ := h.mem.get (s := 4) (by omega) (by omega) i (y := ptr e.gq) (by rw [h.x4]; exact map_at hi)
 have l3 : (x 3).length = RL.length := by rw [h.x3, List.length_map]
 have l4 : (x 4).length = RL.length := by rw [h.x4, List.length_map]
 rw [l3] at p1
 rw [l4] at p2
 refine ⟨g1, cap1, g2, cap2, ⟨p1, q1⟩, fun w1 hk => ?_⟩
 have c : ∀ (s b' n : Nat), s < 7 → Own w0.heap.size col s w b' → w1.cell? ⟨b', n, none⟩ = w.cell? ⟨b', n, none⟩ := fun s b' n hs q => World.cell?_of_block ((hk b' s (by omega) (ho s b' hs q).1).trans (ho s b' hs q).2)
 have d : ∀ n : Nat, w1.cell? ⟨w.heap.size, n, none⟩ = (w.alloc (.cells #[.int .i64 kd, .int .i64 a, .int .i64 b, .int .i64 wh, .string S] 28)).drew.cell? ⟨w.heap.size, n, none⟩ := fun n => World.cell?_of_block (hk _ 7 (by omega) hop)
 have r := World.rowIs_alloc w #[.int .i64 kd, .int .i64 a, .int .i64 b, .int .i64 wh, .string S] 28 (fun i => if i = 0 then .int .i64 kd else if i = 1 then .int .i64 a else if i = 2 then .int .i64 b else if i = 3 then .int .i64 wh else .string S) (fun i hi => by match i, hi with | 0, _ => rfl | 1, _ => rfl | 2, _ => rfl | 3, _ => rfl | 4, _ => rfl)
 have d1 : w1.cell? ⟨w.heap.size, 1, none⟩ = some (.int .i64 a) := (d 1).trans (r.cell (i := 1) (show 1 < 5 by omega))
 have d2 : w1.cell? ⟨w.heap.size, 2, none⟩ = some (.int .i64 b) := (d 2).trans (r.cell (i := 2) (show 2 < 5 by omega))
 exact ⟨⟨(c 0 gW 4 (by omega) h.mem.own).trans p1, (c 3 g1 i (by omega) o1).trans q1, d1, d2⟩, ⟨(c 0 gW 5 (by omega) h.mem.own).trans p2, (c 4 g2 i (by omega) o2).trans q2, d1, d2⟩⟩
set_option maxRecDepth 8000 in
set_option maxHeartbeats 400000 in
/-- Read. -/
theorem ChaS.reads10 (h : ChaS w0 col w gW f x WL RL j) {i : Nat} (hi : i < RL.length) (a b wh : Int) (S : ByteArray) (hb1 : b ≤ 9223372036854775807) (hb0 : -9223372036854775808 ≤ b) (hj : j ≤ 2000000) :
 Calls Tryz.prog 26 #[ptr gW, .int .i64 (i : Nat), opV 10 a b wh S] w fun r w' => r = .returned (.bool true) ∧ Cha w0 w' gW WL.length RL.length (j + 1) := by
 unfold opV
 have hie := List.getElem?_eq_getElem hi
 obtain ⟨col2, S2, hop, ho⟩ := h.op (.cells #[.int .i64 10, .int .i64 a, .int .i64 b, .int .i64 wh, .string S] 28)
 obtain ⟨g1, cap1, g2, cap2, ⟨p1, q1⟩, HK0⟩ := h.readK hie 10 a b wh S hop ho
 have HK : Hid (_) := HK0
 obtain ⟨t, an, z1, HC0⟩ := S2.read hie a b hj hb1 hb0
 have HC : Hid (_) := HC0
 have hil : (i : Int) < (RL.length : Int) := by omega
 clear HC0 h S2 z1 hie HK0 ho hop
 generalize RL[i].gr = gr at HC HK q1
 generalize RL[i].gq = gq at HC HK
 generalize WL.length = nW at *
 generalize RL.length = nR at *
 unfold ptr at *
 go_enter Tryz.func26, Tryz.ntmps26
 go_wp2_with fail
 go_region_held3 (fun w' => w'.cell? ⟨gW, 4, none⟩ = some (.slice (some ⟨g1, 0, none⟩) nR cap1) ∧ w'.cell? ⟨g1, i, none⟩ = some (.pointer (some ⟨gr, 0, none⟩)) ∧ w'.cell? ⟨w.heap.size, 1, none⟩ = some (.int .i64 a) ∧ w'.cell? ⟨w.heap.size, 2, none⟩ = some (.int .i64 b)) (first | exact (HK.out _ (by assumption)).1 | exact (HK.out _ (fun _ _ _ _ => rfl)).1)
  (first | (go_at_call 48; refine Calls.mono HC.out ?_; rintro r w1 ⟨rfl, y0, hk1, HD0⟩))
 have HD : Hid (_) := HD0
 obtain ⟨y1, y2, y3, y4⟩ := (HK.out w1 hk1).2
 have HKD : Hid (∀ wz : World, wz.heap = w1.heap → wz.cell? ⟨gW, 5, none⟩ = some (.slice (some ⟨g2, 0, none⟩) nR cap2) ∧ wz.cell? ⟨g2, i, none⟩ = some (.pointer (some ⟨gq, 0, none⟩)) ∧ wz.cell? ⟨w.heap.size, 1, none⟩ = some (.int .i64 a) ∧ wz.cell? ⟨w.heap.size, 2, none⟩ = some (.int .i64 b)) := fun wz hh => (HK.out wz (fun b' s hs q => by rw [hh]; exact hk1 b' s hs q)).2
 clear HC p1 q1 HD0 y0 hk1
 go_wp2_with fail
 go_region_held3 (fun w' => w'.cell? ⟨gW, 5, none⟩ = some (.slice (some ⟨g2, 0, none⟩) nR cap2) ∧ w'.cell? ⟨g2, i, none⟩ = some (.pointer (some ⟨gq, 0, none⟩)) ∧ w'.cell? ⟨w.heap.size, 1, none⟩ = some (.int .i64 a) ∧ w'.cell? ⟨w.heap.size, 2, none⟩ = some (.int .i64 b)) (first | exact (HK.out _ (by assumption)).2 | exact HKD.out _ rfl)
  (first | (go_at_call 49; refine Calls.mono (HD.out _ (by rfl) (by rfl) (by rfl) (by rfl)) ?_; rintro r w2 ⟨rfl, hk2, hQ⟩))
 have HQ : Hid (_) := hQ
 clear HD HK HKD hQ hk2 y1 y2 y3 y4
 go_wp2_with fail
 refine (numc_any _ _).mono ?_
 rintro r w3 ⟨rfl, rfl⟩
 go_wp2
 go_ret
 exact ⟨rfl, HQ.out⟩
set_option maxRecDepth 8000 in
set_option maxHeartbeats 400000 in
/-- Feed. -/
theorem ChaS.reads8 (h : ChaS w0 col w gW f x WL RL j) {i : Nat} (hi : i < RL.length) (a b wh : Int) (S : ByteArray) (hS : S.size ≤ 6000000) (hj : j ≤ 2000000) (h0 : 1 < w0.heap.size) (hord : OrdIn w0 1) :
 Calls Tryz.prog 26 #[ptr gW, .int .i64 (i : Nat), opV 8 a b wh S] w fun r w' => r = .returned (.bool true) ∧ Cha w0 w' gW WL.length RL.length (j + 1) := by
 unfold opV
 have hb : Below w.heap.size w (w.alloc (.cells #[.int .i64 8, .int .i64 a, .int .i64 b, .int .i64 wh, .string S] 28)) := (Below.refl _ _).alloc (Nat.le_refl _) _
 have HF : Hid (_) := (h.made hb).feeds hi S hS hj h0 hord
 clear h hb
 generalize WL.length = nW at *
 generalize RL.length = nR at *
 unfold ptr at *
 go_enter Tryz.func26, Tryz.ntmps26
 go_wp2_with fail
 refine Calls.mono HF.out ?_
 rintro r w1 ⟨rfl, hQ⟩
 have HQ : Hid (_) := hQ
 clear HF hQ
 go_wp2
 go_ret
 exact ⟨rfl, HQ.out⟩
set_option maxRecDepth 8000 in
set_option maxHeartbeats 400000 in
/-- Done. -/
theorem ChaS.reads11 (h : ChaS w0 col w gW f x WL RL j) {i : Nat} (hi : i < RL.length) (a b wh : Int) (S : ByteArray) (hj : j ≤ 2000000) :
 Calls Tryz.prog 26 #[ptr gW, .int .i64 (i : Nat), opV 11 a b wh S] w fun r w' => r = .returned (.bool true) ∧ Cha w0 w' gW WL.length RL.length (j + 1) := by
 unfold opV
 have hb : Below w.heap.size w (w.alloc (.cells #[.int .i64 11, .int .i64 a, .int .i64 b, .int .i64 wh, .string S] 28)) := (Below.refl _ _).alloc (Nat.le_refl _) _
 have hie := List.getElem?_eq_getElem hi
 obtain ⟨g1, cap1, a1, b1, a1', b1'⟩ := h.mem.atB (s := 3) (by omega) (by omega) (v := ptr RL[i].gr) (by rw [h.x3]; exact map_at hie) (n := RL.length) (by rw [h.x3, List.length_map]) hb
 obtain ⟨g2, cap2, a2, b2, a2', b2'⟩ := h.mem.atB (s := 4) (by omega) (by omega) (v := ptr RL[i].gq) (by rw [h.x4]; exact map_at hie) (n := RL.length) (by rw [h.x4, List.length_map]) hb
 obtain ⟨dn, z2, z3, HD0, HE0⟩ := (h.made hb).done hie hj
 have HD : Hid (_) := HD0
 have HE : Hid (_) := HE0
 have hil : (i : Int) < (RL.length : Int) := by omega
 clear HD0 HE0 h z2 z3 hie hb
 generalize RL[i].gr = gr at HD b1 b1'
 generalize RL[i].gq = gq at HE b2 b2'
 generalize WL.length = nW at *
 generalize RL.length = nR at *
 unfold ptr at *
 go_enter Tryz.func26, Tryz.ntmps26
 go_wp2_with fail
 refine Calls.mono HD.out ?_
 rintro r w1 ⟨rfl, rfl⟩
 clear HD
 go_wp2_with fail
 refine Calls.mono (HE.out _ rfl rfl rfl rfl) ?_
 rintro r w2 ⟨rfl, hQ⟩
 have HQ : Hid (_) := hQ
 clear HE hQ a1 b1 a1' b1' a2 b2 a2' b2'
 go_wp2
 go_ret
 exact ⟨rfl, HQ.out⟩
end
/- Channels: writes: Flush, Tick, Close. -/
section
variable {w0 w : World} {col : Nat → Nat} {gW : Nat} {f : Nat → Value} {x : Nat → List Value} {WL : List We} {RL : List Re} {j : Nat}
set_option maxRecDepth 8000 in
set_option maxHeartbeats 400000 in
/-- Flush. -/
theorem ChaS.writes3 (h : ChaS w0 col w gW f x WL RL j) {i : Nat} (hi : i < WL.length) (a b wh : Int) (S : ByteArray) (hj : j ≤ 2000000) :
 Calls Tryz.prog 24 #[ptr gW, .int .i64 (i : Nat), opV 3 a b wh S] w fun r w' => r = .returned (.bool true) ∧ Cha w0 w' gW WL.length RL.length (j + 1) := by
 unfold opV
 have hb : Below w.heap.size w (w.alloc (.cells #[.int .i64 3, .int .i64 a, .int .i64 b, .int .i64 wh, .string S] 28)) := (Below.refl _ _).alloc (Nat.le_refl _) _
 have hie := List.getElem?_eq_getElem hi
 obtain ⟨g1, cap1, a1, b1, a1', b1'⟩ := h.mem.atB (s := 1) (by omega) (by omega) (v := ptr WL[i].gw) (by rw [h.x1]; exact map_at hie) (n := WL.length) (by rw [h.x1, List.length_map]) hb
 obtain ⟨g2, cap2, a2, b2, a2', b2'⟩ := h.mem.atB (s := 2) (by omega) (by omega) (v := ptr WL[i].gv) (by rw [h.x2]; exact map_at hie) (n := WL.length) (by rw [h.x2, List.length_map]) hb
 have HC := (h.made hb).flush hie hj
 have hil : (i : Int) < (WL.length : Int) := by omega
 clear h hie hb
 generalize WL[i].gw = gw at HC b1 b1'
 generalize WL[i].gv = gv at HC b2 b2'
 generalize WL.length = nW at *
 generalize RL.length = nR at *
 unfold ptr at *
 rcases HC with HC0 | HC0
 ·
  have HC : Hid (_) := HC0
  clear HC0
  go_enter Tryz.func24, Tryz.ntmps24
  go_wp2_with fail
  refine Calls.mono HC.out ?_
  rintro r w1 ⟨rfl, HD0⟩
  have HD : Hid (_) := HD0
  clear HC HD0 a1 b1 a1' b1' a2 b2 a2' b2'
  go_wp2_with fail
  refine Calls.mono HD.out ?_
  rintro r w2 ⟨rfl, hQ⟩
  have HQ : Hid (_) := hQ
  clear HD hQ
  go_wp2_with fail
  refine (numc_any _ _).mono ?_
  rintro r w4 ⟨rfl, rfl⟩
  go_wp2
  go_ret
  exact ⟨rfl, HQ.out⟩
 ·
  have HC : Hid (_) := HC0
  clear HC0
  go_enter Tryz.func24, Tryz.ntmps24
  go_wp2_with fail
  refine Calls.mono HC.out ?_
  rintro r w1 ⟨rfl, HD0⟩
  have HD : Hid (_) := HD0
  clear HC HD0 a1 b1 a1' b1' a2 b2 a2' b2'
  go_wp2_with fail
  refine Calls.mono HD.out ?_
  rintro r w2 ⟨rfl, HG0⟩
  have HG : Hid (_) := HG0
  clear HD HG0
  go_wp2_with fail
  refine Calls.mono HG.out ?_
  rintro r w3 ⟨rfl, hQ⟩
  have HQ : Hid (_) := hQ
  clear HG hQ
  go_wp2_with fail
  refine (numc_any _ _).mono ?_
  rintro r w4 ⟨rfl, rfl⟩
  go_wp2
  go_ret
  exact ⟨rfl, HQ.out⟩
set_option maxRecDepth 8000 in
set_option maxHeartbeats 400000 in
/-- Tick. -/
theorem ChaS.writes4 (h : ChaS w0 col w gW f x WL RL j) {i : Nat} (hi : i < WL.length) (a b wh : Int) (S : ByteArray) (hj : j ≤ 2000000) :
 Calls Tryz.prog 24 #[ptr gW, .int .i64 (i : Nat), opV 4 a b wh S] w fun r w' => r = .returned (.bool true) ∧ Cha w0 w' gW WL.length RL.length (j + 1) := by
 unfold opV
 have hb : Below w.heap.size w (w.alloc (.cells #[.int .i64 4, .int .i64 a, .int .i64 b, .int .i64 wh, .string S] 28)) := (Below.refl _ _).alloc (Nat.le_refl _) _
 have hie := List.getElem?_eq_getElem hi
 obtain ⟨g1, cap1, a1, b1, a1', b1'⟩ := h.mem.atB (s := 1) (by omega) (by omega) (v := ptr WL[i].gw) (by rw [h.x1]; exact map_at hie) (n := WL.length) (by rw [h.x1, List.length_map]) hb
 obtain ⟨g2, cap2, a2, b2, a2', b2'⟩ := h.mem.atB (s := 2) (by omega) (by omega) (v := ptr WL[i].gv) (by rw [h.x2]; exact map_at hie) (n := WL.length) (by rw [h.x2, List.length_map]) hb
 have HC := (h.made hb).tick hie hj
 have hil : (i : Int) < (WL.length : Int) := by omega
 clear h hie hb
 generalize WL[i].gw = gw at HC b1 b1'
 generalize WL[i].gv = gv at HC b2 b2'
 generalize WL.length = nW at *
 generalize RL.length = nR at *
 unfold ptr at *
 rcases HC with HC0 | HC0
 ·
  have HC : Hid (_) := HC0
  clear HC0
  go_enter Tryz.func24, Tryz.ntmps24
  go_wp2_with fail
  refine Calls.mono HC.out ?_
  rintro r w1 ⟨rfl, HD0⟩
  have HD : Hid (_) := HD0
  clear HC HD0 a1 b1 a1' b1' a2 b2 a2' b2'
  go_wp2_with fail
  refine Calls.mono HD.out ?_
  rintro r w2 ⟨rfl, hQ⟩
  have HQ : Hid (_) := hQ
  clear HD hQ
  go_wp2
  go_ret
  exact ⟨rfl, HQ.out⟩
 ·
  have HC : Hid (_) := HC0
  clear HC0
  go_enter Tryz.func24, Tryz.ntmps24
  go_wp2_with fail
  refine Calls.mono HC.out ?_
  rintro r w1 ⟨rfl, HD0⟩
  have HD : Hid (_) := HD0
  clear HC HD0 a1 b1 a1' b1' a2 b2 a2' b2'
  go_wp2_with fail
  refine Calls.mono HD.out ?_
  rintro r w2 ⟨rfl, HG0⟩
  have HG : Hid (_) := HG0
  clear HD HG0
  go_wp2_with fail
  refine Calls.mono HG.out ?_
  rintro r w3 ⟨rfl, hQ⟩
  have HQ : Hid (_) := hQ
  clear HG hQ
  go_wp2
  go_ret
  exact ⟨rfl, HQ.out⟩
set_option maxRecDepth 8000 in
set_option maxHeartbeats 400000 in
/-- Close. -/
theorem ChaS.writes5 (h : ChaS w0 col w gW f x WL RL j) {i : Nat} (hi : i < WL.length) (a b wh : Int) (S : ByteArray) (hj : j ≤ 2000000) :
 Calls Tryz.prog 24 #[ptr gW, .int .i64 (i : Nat), opV 5 a b wh S] w fun r w' => r = .returned (.bool true) ∧ Cha w0 w' gW WL.length RL.length (j + 1) := by
 unfold opV
 have hb : Below w.heap.size w (w.alloc (.cells #[.int .i64 5, .int .i64 a, .int .i64 b, .int .i64 wh, .string S] 28)) := (Below.refl _ _).alloc (Nat.le_refl _) _
 have hie := List.getElem?_eq_getElem hi
 obtain ⟨g1, cap1, a1, b1, a1', b1'⟩ := h.mem.atB (s := 1) (by omega) (by omega) (v := ptr WL[i].gw) (by rw [h.x1]; exact map_at hie) (n := WL.length) (by rw [h.x1, List.length_map]) hb
 obtain ⟨g2, cap2, a2, b2, a2', b2'⟩ := h.mem.atB (s := 2) (by omega) (by omega) (v := ptr WL[i].gv) (by rw [h.x2]; exact map_at hie) (n := WL.length) (by rw [h.x2, List.length_map]) hb
 have HC := (h.made hb).close hie hj
 have hil : (i : Int) < (WL.length : Int) := by omega
 clear h hie hb
 generalize WL[i].gw = gw at HC b1 b1'
 generalize WL[i].gv = gv at HC b2 b2'
 generalize WL.length = nW at *
 generalize RL.length = nR at *
 unfold ptr at *
 rcases HC with HC0 | HC0
 ·
  have HC : Hid (_) := HC0
  clear HC0
  go_enter Tryz.func24, Tryz.ntmps24
  go_wp2_with fail
  refine Calls.mono HC.out ?_
  rintro r w1 ⟨rfl, HD0⟩
  have HD : Hid (_) := HD0
  clear HC HD0 a1 b1 a1' b1' a2 b2 a2' b2'
  go_wp2_with fail
  refine Calls.mono HD.out ?_
  rintro r w2 ⟨rfl, hQ⟩
  have HQ : Hid (_) := hQ
  clear HD hQ
  go_wp2_with fail
  refine (numc_any _ _).mono ?_
  rintro r w4 ⟨rfl, rfl⟩
  go_wp2
  go_ret
  exact ⟨rfl, HQ.out⟩
 ·
  have HC : Hid (_) := HC0
  clear HC0
  go_enter Tryz.func24, Tryz.ntmps24
  go_wp2_with fail
  refine Calls.mono HC.out ?_
  rintro r w1 ⟨rfl, HD0⟩
  have HD : Hid (_) := HD0
  clear HC HD0 a1 b1 a1' b1' a2 b2 a2' b2'
  go_wp2_with fail
  refine Calls.mono HD.out ?_
  rintro r w2 ⟨rfl, HG0⟩
  have HG : Hid (_) := HG0
  clear HD HG0
  go_wp2_with fail
  refine Calls.mono HG.out ?_
  rintro r w3 ⟨rfl, hQ⟩
  have HQ : Hid (_) := hQ
  clear HG hQ
  go_wp2_with fail
  refine (numc_any _ _).mono ?_
  rintro r w4 ⟨rfl, rfl⟩
  go_wp2
  go_ret
  exact ⟨rfl, HQ.out⟩
end
/- Channels: writes: Write. -/
section
variable {w0 w : World} {col : Nat → Nat} {gW : Nat} {f : Nat → Value} {x : Nat → List Value} {WL : List We} {RL : List Re} {j : Nat}
/-- The cells of the step stay. -/
theorem opK {B : Nat} {col2 : Nat → Nat} (kd a b wh : Int) (S : ByteArray) (hop : Own B col2 7 (w.alloc (.cells #[.int .i64 kd, .int .i64 a, .int .i64 b, .int .i64 wh, .string S] 28)) w.heap.size) (w1 : World)
 (hk : ∀ b' s, s < 10 → Own B col2 s (w.alloc (.cells #[.int .i64 kd, .int .i64 a, .int .i64 b, .int .i64 wh, .string S] 28)) b' → w1.heap[b']? = (w.alloc (.cells #[.int .i64 kd, .int .i64 a, .int .i64 b, .int .i64 wh, .string S] 28)).heap[b']?) :
 w1.cell? ⟨w.heap.size, 1, none⟩ = some (.int .i64 a) ∧ w1.cell? ⟨w.heap.size, 4, none⟩ = some (.string S) := by
 have d : ∀ n : Nat, w1.cell? ⟨w.heap.size, n, none⟩ = (w.alloc (.cells #[.int .i64 kd, .int .i64 a, .int .i64 b, .int .i64 wh, .string S] 28)).cell? ⟨w.heap.size, n, none⟩ := fun n => World.cell?_of_block (hk _ 7 (by omega) hop)
 have r := World.rowIs_alloc w #[.int .i64 kd, .int .i64 a, .int .i64 b, .int .i64 wh, .string S] 28 (fun i => if i = 0 then .int .i64 kd else if i = 1 then .int .i64 a else if i = 2 then .int .i64 b else if i = 3 then .int .i64 wh else .string S) (fun i hi => by match i, hi with | 0, _ => rfl | 1, _ => rfl | 2, _ => rfl | 3, _ => rfl | 4, _ => rfl)
 exact ⟨(d 1).trans (r.cell (i := 1) (show 1 < 5 by omega)), (d 4).trans (r.cell (i := 4) (show 4 < 5 by omega))⟩
theorem ChaS.op0 (h : ChaS w0 col w gW f x WL RL j) (o : Obj) : ∃ col2, ChaS w0 col2 (w.alloc o) gW f x WL RL j ∧ Own w0.heap.size col2 7 (w.alloc o) w.heap.size := by
 have hb : Below w.heap.size w (w.alloc o) := (Below.refl w.heap.size w).alloc (Nat.le_refl _) o
 refine ⟨recol col 7 w, h.made hb, ⟨h.mem.low, by simp, ?_⟩⟩
 unfold recol
 rw [if_pos (Nat.le_refl _)]
set_option maxRecDepth 8000 in
set_option maxHeartbeats 400000 in
/-- Write. -/
theorem ChaS.writes2 (h : ChaS w0 col w gW f x WL RL j) {i : Nat} (hi : i < WL.length) (a b wh : Int) (S : ByteArray) (hS : S.size ≤ 6000000) :
 Calls Tryz.prog 24 #[ptr gW, .int .i64 (i : Nat), opV 2 a b wh S] w fun r w' => r = .returned (.bool true) ∧ Cha w0 w' gW WL.length RL.length (j + 1) := by
 unfold opV
 have hb : Below w.heap.size w (w.alloc (.cells #[.int .i64 2, .int .i64 a, .int .i64 b, .int .i64 wh, .string S] 28)) := (Below.refl _ _).alloc (Nat.le_refl _) _
 have hie := List.getElem?_eq_getElem hi
 obtain ⟨g1, cap1, a1, b1, a1', b1'⟩ := h.mem.atB (s := 1) (by omega) (by omega) (v := ptr WL[i].gw) (by rw [h.x1]; exact map_at hie) (n := WL.length) (by rw [h.x1, List.length_map]) hb
 obtain ⟨g2, cap2, a2, b2, a2', b2'⟩ := h.mem.atB (s := 2) (by omega) (by omega) (v := ptr WL[i].gv) (by rw [h.x2]; exact map_at hie) (n := WL.length) (by rw [h.x2, List.length_map]) hb
 obtain ⟨col2, S2, hop⟩ := h.op0 (.cells #[.int .i64 2, .int .i64 a, .int .i64 b, .int .i64 wh, .string S] 28)
 have HK : Hid (_) := opK 2 a b wh S hop
 obtain ⟨m, an, HC0⟩ := S2.write hie a S hS
 have HC : Hid (_) := HC0
 have hil : (i : Int) < (WL.length : Int) := by omega
 clear HC0 h S2 hie hop hb
 generalize WL[i].gw = gw at HC b1 b1'
 generalize WL[i].gv = gv at HC b2 b2'
 generalize WL.length = nW at *
 generalize RL.length = nR at *
 unfold ptr at *
 go_enter Tryz.func24, Tryz.ntmps24
 go_wp2_with fail
 refine Calls.mono HC.out ?_
 rintro r w1 ⟨rfl, hk1, HD0⟩
 have HD : Hid (_) := HD0
 obtain ⟨y1, y4⟩ := HK.out w1 hk1
 clear HC a1 b1 a1' b1' a2 b2 a2' b2' HD0 hk1
 go_wp2_with fail
 refine Calls.mono (HD.out _ rfl rfl rfl rfl) ?_
 rintro r w2 ⟨rfl, hk2, hQ⟩
 have HQ : Hid (_) := hQ
 clear HD HK hQ hk2 y1 y4
 go_wp2_with fail
 refine (numc_any _ _).mono ?_
 rintro r w3 ⟨rfl, rfl⟩
 go_wp2
 go_ret
 exact ⟨rfl, HQ.out⟩
end
/- Channels: wire: what is so on its way. -/
section
variable {w0 w : World} {col : Nat → Nat} {gW : Nat} {f : Nat → Value} {x : Nat → List Value} {WL : List We} {RL : List Re} {j : Nat}
/-- A pair of writers goes on, in the same step. -/
theorem ChaS.setWs (h : ChaS w0 col w gW f x WL RL j) {col' : Nat → Nat} {w' : World} {f' : Nat → Value} {x' : Nat → List Value} {i : Nat} {e e' : We} (hi : WL[i]? = some e) (hm : Wld w0.heap.size col' w' gW f' x' (WL.set i e') RL) (hb : Below w0.heap.size w0 w') (h1 : x' 1 = x 1) (h2 : x' 2 = x 2) (h3 : x' 3 = x 3) (h4 : x' 4 = x 4)
 (h5 : x' 5 = (WL.set i e').map (fun e : We => Value.string e.had)) (h6 : x' 6 = (WL.set i e').map (fun e : We => Value.int .i64 ((e.may : Nat) : Int))) (hw : e'.gw = e.gw) (hv : e'.gv = e.gv) (hI : WeI e' j) : ChaS w0 col' w' gW f' x' (WL.set i e') RL j :=
 ⟨hm, hb, by rw [h1, map_set_same hi (by rw [hw])]; exact h.x1, by rw [h2, map_set_same hi (by rw [hv])]; exact h.x2, by rw [h3]; exact h.x3, by rw [h4]; exact h.x4, h5, h6, fun k y hy => by
  rcases set_cases hy with ⟨_, rfl⟩ | ⟨_, hy⟩
  · exact hI
  · exact h.ws k y hy, h.rs, by rw [List.length_set]; exact h.many⟩
/-- What wire sees: the bytes s that came, all A that was had, of a writer that sent so much. -/
structure WireF (most : Int) (s A : ByteArray) (k : Vk) (may : Nat) : Prop where
 neg : most < 0 → s.size = 0
 pos : 0 ≤ most → (s.size : Int) ≤ most
 short : s.size ≤ 6000000
 fit : A.size ≤ may
 text : (runF A).text <+: k.text
 why : (runF A).why = 0 ∨ (runF A).why = 2
 all : 0 ≤ most → (s.size : Int) < most → (runF A).text = k.text ∧ (runF A).fin = k.closed ∧ (0 < k.count ∨ A.size = 0) ∧ ((runF A).fin = true → ((runF A).pos + 7) / 8 = A.size)
 small : A.size ≤ 6000000
theorem WsI.wireF {N : Nat} {Q : Nat → List UInt8} {tk wd : Nat} {L : List UInt8} {n : Nat} {closed : Bool} {k : Vk} {had : ByteArray} {may : Nat} {X : ByteArray} {j : Nat} (h : WsI N Q tk wd L n closed k had may X j) (hj : j ≤ 1100000) (most : Int) :
 WireF most ⟨(L.take most.toNat).toArray⟩ (had ++ ⟨(L.take most.toNat).toArray⟩) k may := by
 obtain ⟨_, hp, hm⟩ := h.wired most.toNat
 have hsz := h.size
 have es : (⟨(L.take most.toNat).toArray⟩ : ByteArray).size = min most.toNat L.length := by
  rw [size_list]
  show (L.take most.toNat).length = _
  rw [List.length_take]
 obtain ⟨t1, t2⟩ := h.sent.part hp
 have hps := hp.size
 refine ⟨fun q => by rw [es]; omega, fun q => by rw [es]; omega, by rw [es]; omega, hm, t1, t2, fun q1 q2 => ?_, by omega⟩
 rw [es] at q2
 have hw := h.whole most.toNat (by omega)
 rw [hw]
 refine ⟨h.sent.text, ?_, h.begun, fun q => ?_⟩
 ·
  rw [runF_fin, h.shut]
  cases hc : closed with
  | false => rw [h.sent.more hc]; rfl
  | true => rw [(h.sent.done hc).1]; rfl
 ·
  cases hc : closed with
  | false => rw [runF_fin, h.sent.more hc] at q; simp at q
  | true => exact (h.sent.done hc).2
/-- The way of wire. -/
theorem ChaS.wirePack (h : ChaS w0 col w gW f x WL RL j) {i : Nat} {e : We} (hi : WL[i]? = some e) (hj : j ≤ 1100000) (most : Int) (hm : most ≤ 9223372036854775807) (hm0 : -9223372036854775808 ≤ most) :
 ∃ s : ByteArray, WireF most s (e.had ++ s) e.k e.may ∧ At w gW 2 i WL.length (ptr e.gw) ∧
  Calls Tryz.prog 19 #[ptr e.gw, .int .i64 most] w fun r w1 => r = .returned (.string s) ∧ ∃ g5 cap5 g2 cap2 g6 cap6, w1.cell? ⟨gW, 6, none⟩ = some (.slice (some ⟨g5, 0, none⟩) WL.length cap5) ∧ w1.cell? ⟨g5, i, none⟩ = some (.string e.had) ∧ w1.frozen? ⟨g5, i, none⟩ = false ∧
   ∀ W, W = (w1.setCell ⟨g5, i, none⟩ (.string (e.had ++ s))).drew →
    (W.cell? ⟨gW, 3, none⟩ = some (.slice (some ⟨g2, 0, none⟩) WL.length cap2) ∧ W.cell? ⟨g2, i, none⟩ = some (ptr e.gv) ∧ W.cell? ⟨gW, 6, none⟩ = some (.slice (some ⟨g5, 0, none⟩) WL.length cap5) ∧ W.cell? ⟨g5, i, none⟩ = some (.string (e.had ++ s)) ∧ W.cell? ⟨gW, 7, none⟩ = some (.slice (some ⟨g6, 0, none⟩) WL.length cap6) ∧ W.cell? ⟨g6, i, none⟩ = some (.int .i64 (e.may : Nat))) ∧
    ∀ q, Calls Tryz.prog 64 #[.string (e.had ++ s)] (W.drewN q) fun r w3 => ∃ gx vt, r = .returned (ptr gx) ∧ (∀ q, (convert 80 9 vt).run Tryz.prog (w3.drewN q) = .ok (.string (txt (runF (e.had ++ s)).text)) (w3.drewN q)) ∧
     (w3.cell? ⟨gx, 1, none⟩ = some (.int .i64 ((runF (e.had ++ s)).pos : Int)) ∧ w3.cell? ⟨gx, 2, none⟩ = some vt ∧ w3.cell? ⟨gx, 3, none⟩ = some (.int .i64 ((runF (e.had ++ s)).why : Int)) ∧ w3.cell? ⟨gx, 4, none⟩ = some (.bool (runF (e.had ++ s)).fin)) ∧
     (w3.cell? ⟨e.gv, 1, none⟩ = some (.string (txt e.k.text)) ∧ w3.cell? ⟨e.gv, 5, none⟩ = some (.bool e.k.closed) ∧ w3.cell? ⟨e.gv, 7, none⟩ = some (.int .i64 (e.k.count : Nat))) ∧
     (w3.cell? ⟨gW, 6, none⟩ = some (.slice (some ⟨g5, 0, none⟩) WL.length cap5) ∧ w3.cell? ⟨g5, i, none⟩ = some (.string (e.had ++ s))) ∧
     ∀ q, (∀ b, Own w0.heap.size col 7 w b → (w3.drewN q).heap[b]? = w.heap[b]?) ∧ Cha w0 (w3.drewN q) gW WL.length RL.length j := by
 have hI := h.ws i e hi
 have hP := h.mem.wr i e hi
 obtain ⟨X, hX⟩ := hI.rel
 have hsz := hX.size
 have hnn := hX.nn
 have hF := hX.wireF hj most
 obtain ⟨hW2, _, _⟩ := hX.wired most.toNat
 refine ⟨⟨(e.L.take most.toNat).toArray⟩, hF, (h.atW hi).1, ?_⟩
 refine (wire_any _ w0.heap.size e.gw e.N e.Q e.tk e.wd e.L e.n e.closed most w hP.prog (by omega) hm hm0).mono ?_
 rintro r w1 ⟨hr, hk, hm1⟩
 refine ⟨hr, ?_⟩
 generalize (⟨(e.L.take most.toNat).toArray⟩ : ByteArray) = s at hF hW2 ⊢
 have m1 := h.mem.progW hi hk hm1
 have b1 := hk.onto h.below (fun b z => z.1)
 have hi1 := set_at { e with Q := e.Q, tk := e.tk, wd := e.wd, L := e.L.drop most.toNat, n := e.n, closed := e.closed } hi
 have l5 : (x 5).length = WL.length := by rw [h.x5, List.length_map]
 have l2 : (x 2).length = WL.length := by rw [h.x2, List.length_map]
 have l6 : (x 6).length = WL.length := by rw [h.x6, List.length_map]
 have hil := (List.getElem?_eq_some_iff.1 hi).1
 obtain ⟨g5, cap5, c5, d5, z5, o5, v5⟩ := m1.get (s := 5) (by omega) (by omega) i (y := .string e.had) (by rw [h.x5]; exact map_at hi)
 have m2 := m1.set (s := 5) (by omega) (by omega) i (y := .string (e.had ++ s)) rfl v5 (by omega) o5
 have m3 := m2.other (id := 7) (Kw.refl _ _).drew (by omega) (fun s a b => by omega) (fun i _ => ⟨by omega, by omega⟩) (fun i _ => ⟨by omega, by omega⟩)
 have m4 := m3.told hi1 (e.had ++ s) e.may
 rw [List.set_set] at m4
 obtain ⟨e4, he4⟩ : ∃ e4 : We, e4 = { e with L := e.L.drop most.toNat, had := e.had ++ s } := ⟨_, rfl⟩
 have hi4 := set_at e4 hi
 have b4 : Below w0.heap.size w0 (w1.setCell ⟨g5, i, none⟩ (.string (e.had ++ s))).drew := (kw_set (W := fun b => w0.heap.size ≤ b) w1 (.string (e.had ++ s)) (i := i) o5.1).drew.onto b1 (fun b z => z)
 have m5 : ∃ col5, Wld w0.heap.size col5 (w1.setCell ⟨g5, i, none⟩ (.string (e.had ++ s))).drew gW f (fun t => if t = 5 then (x 5).set i (.string (e.had ++ s)) else x t) (WL.set i e4) RL := ⟨_, by rw [he4]; exact m4⟩
 obtain ⟨x', hx'⟩ : ∃ x' : Nat → List Value, x' = fun t => if t = 5 then (x 5).set i (.string (e.had ++ s)) else x t := ⟨_, rfl⟩
 rw [← hx'] at m5
 obtain ⟨col5, m5⟩ := m5
 have S4 := h.setWs (e' := e4) hi m5 b4 (by rw [hx']; rfl) (by rw [hx']; rfl) (by rw [hx']; rfl) (by rw [hx']; rfl) (by rw [hx']; show (x 5).set i _ = _; rw [h.x5, List.map_set, he4]) (by rw [hx']; show x 6 = _; rw [map_set_same (e' := e4) hi (by rw [he4])]; exact h.x6) (by rw [he4]) (by rw [he4]) (by rw [he4]; exact ⟨hI.n1, hI.same, ⟨X, hW2⟩, hI.may⟩)
 have egv : e4.gv = e.gv := by rw [he4]
 have emy : e4.may = e.may := by rw [he4]
 have ehd : e4.had = e.had ++ s := by rw [he4]
 have ek : e4.k = e.k := by rw [he4]
 obtain ⟨g2, cap2, c2, d2, _⟩ := S4.mem.get (s := 2) (by omega) (by omega) i (y := ptr e.gv) (by rw [S4.x2, ← egv]; exact map_at hi4)
 obtain ⟨g6, cap6, c6, d6, _⟩ := S4.mem.get (s := 6) (by omega) (by omega) i (y := .int .i64 (e.may : Nat)) (by rw [S4.x6, ← emy]; exact map_at hi4)
 obtain ⟨g5', cap5', c5', d5', _, _, v5'⟩ := S4.mem.get (s := 5) (by omega) (by omega) i (y := .string (e.had ++ s)) (by rw [S4.x5, ← ehd]; exact map_at hi4)
 have ll : (WL.set i e4).length = WL.length := List.length_set
 have q2 : (x' 2).length = WL.length := by rw [S4.x2, List.length_map, ll]
 have q5 : (x' 5).length = WL.length := by rw [S4.x5, List.length_map, ll]
 have q6 : (x' 6).length = WL.length := by rw [S4.x6, List.length_map, ll]
 rw [q2] at c2
 rw [q5] at c5' v5'
 rw [q6] at c6
 rw [l5] at c5 v5
 rw [v5] at v5'
 simp only [Value.slice.injEq, Option.some.injEq, Addr.mk.injEq, true_and, and_true] at v5'
 obtain ⟨rfl, rfl⟩ := v5'
 clear m1 m2 m3 m4 m5
 refine ⟨g5, cap5, g2, cap2, g6, cap6, c5, d5, z5, fun W hWe => ?_⟩
 rw [← hWe] at S4 c2 d2 c6 d6 c5' d5'
 refine ⟨⟨c2, d2, c5', d5', c6, d6⟩, fun q => ?_⟩
 have hA := hF.small
 refine (run_any (e.had ++ s) (W.drewN q) (by omega)).mono ?_
 rintro r3 w3 ⟨vt, hr3, hS, hb⟩
 have hb3 : Below W.heap.size W w3 := ⟨hb.os, hb.tape, hb.output, hb.size, hb.block⟩
 have S5 := S4.made hb3
 have hd5 := (S5.mem.wr i e4 hi4).doc
 rw [egv, ek] at hd5
 have f5 := fun (b : Nat) (hb5 : b < W.heap.size) (n : Nat) => hb3.cell (p := ⟨b, n, none⟩) hb5
 have g5lt : g5 < W.heap.size := by
  rw [hWe]
  show g5 < (w1.setCell ⟨g5, i, none⟩ (.string (e.had ++ s))).heap.size
  have : (w1.setCell ⟨g5, i, none⟩ (.string (e.had ++ s))).heap.size = w1.heap.size := by simp [World.setCell]
  rw [this]
  exact o5.2.1
 refine ⟨(W.drewN q).heap.size, vt, hr3, fun q => conv_run hS q, ⟨hS.c1, hS.c2, hS.c3, hS.c4⟩, ⟨(hd5.cell 1 (by omega)).1, (hd5.cell 5 (by omega)).1, (hd5.cell 7 (by omega)).1⟩, ⟨(f5 gW S4.mem.own.2.1 6).trans c5', (f5 g5 g5lt i).trans d5'⟩, fun q => ?_⟩
 refine ⟨fun b o7 => ?_, ⟨_, _, _, _, _, S5.made ⟨rfl, rfl, rfl, Nat.le_refl _, fun _ _ => rfl⟩, ll, rfl⟩⟩
 have o8 := own_same o7 (show 7 ≠ 10 + 4 * i by omega) hk.size
 have k5 : Kw w1 W (Own w0.heap.size (recol col (10 + 4 * i) w) 5 w1) := by rw [hWe]; exact (kw_set w1 _ o5).drew
 have e1 : w3.heap[b]? = W.heap[b]? := hb3.block b (Nat.lt_of_lt_of_le o8.2.1 k5.size)
 exact e1.trans ((k5.keeps (by omega) b o8).trans (hk.keeps (by omega) b o7))
end
end Go.Proofs.YtecddphahiadlaaGreatDoor
