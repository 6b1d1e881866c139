import Derived.Test.YtecddphahiadlaaGreatDoorCGFeed
import Derived.Test.YtecddphahiadlaaGreatDoorCCfgR
import Derived.Test.YtecddphahiadlaaGreatDoorCSorN
import Derived.Test.YtecddphahiadlaaGreatDoorCClone
/- A reader of frames, plainly: what it answers to bytes in portions. -/
namespace Go.Proofs.YtecddphahiadlaaGreatDoor
open Go.RowKit
theorem list_app (a b : ByteArray) : (a ++ b).data.toList = a.data.toList ++ b.data.toList := by
 rw [ByteArray.data_append, Array.toList_append]
theorem size_list (a : ByteArray) : a.size = a.data.toList.length := Array.length_toList.symm
theorem bytes_ext {a b : ByteArray} (h : a.data.toList = b.data.toList) : a = b := ByteArray.ext (Array.toList_inj.1 h)
theorem bytes_assoc (a b c : ByteArray) : a ++ b ++ c = a ++ (b ++ c) := bytes_ext (by rw [list_app, list_app, list_app, list_app, List.append_assoc])
theorem drop_list (s : ByteArray) (k : Nat) : (dropB s k).data.toList = s.data.toList.drop k := by
 unfold dropB
 rw [ByteArray.data_extract, Array.toList_extract, List.extract_eq_take_drop, List.take_of_length_le]
 rw [List.length_drop, Array.length_toList]
 show s.data.size - k ≤ s.data.size - k
 exact Nat.le_refl _
theorem drop_size (s : ByteArray) (k : Nat) : (dropB s k).size = s.size - k := by rw [size_list, drop_list, List.length_drop, ← size_list]
/-- Bytes ahead left out. -/
theorem sh_drop (X T : ByteArray) (k : Nat) (hk : k ≤ X.size) : Sh k (dropB X k ++ T) (X ++ T) := by
 refine ⟨by rw [ByteArray.size_append, ByteArray.size_append, drop_size]; omega, fun p _ => ?_⟩
 unfold bitOf
 have e1 : (p + 8 * k) / 8 = k + p / 8 := by omega
 have e2 : (p + 8 * k) % 8 = p % 8 := by omega
 have e3 : (dropB X k ++ T).data.toList = (X ++ T).data.toList.drop k := by
  rw [list_app, list_app, drop_list, List.drop_append_of_le_length (by rw [← size_list]; exact hk)]
 rw [e1, e2, e3, List.getD_eq_getElem?_getD, List.getD_eq_getElem?_getD, List.getElem?_drop]
/-- Of the bytes A the reader keeps s, and stands at (m, σ). -/
structure Carry (A s : ByteArray) (m : Md) (σ : St) (off : Nat) : Prop where
 why : σ.why = 0
 fit : Fit s σ
 size : A.size = s.size + off
 go : ∀ T y m' σ', Goes (s ++ T) m σ y m' σ' → Goes (A ++ T) M0 start y m' (σ'.up off)
theorem carry_start : Carry .empty .empty M0 start 0 := ⟨rfl, start_fit _, rfl, fun _ _ _ _ h => h⟩
theorem fit_app {s T : ByteArray} {σ : St} (h : Fit s σ) : Fit (s ++ T) σ := ⟨by have := h.pos; rw [ByteArray.size_append]; omega, h.text⟩
theorem Carry.step {A s T : ByteArray} {m m' : Md} {σ σ' : St} {off y : Nat} (h : Carry A s m σ off) (g : Goes (s ++ T) m σ y m' σ') : Carry (A ++ T) (dropB (s ++ T) (σ'.pos / 8)) m' { σ' with pos := σ'.pos % 8 } (σ'.pos / 8 + off) := by
 have hf := g.fit (fit_app h.fit)
 have hk : σ'.pos / 8 ≤ (s ++ T).size := by have := hf.pos; omega
 refine ⟨g.why h.why, ⟨?_, hf.text⟩, ?_, fun T2 y2 m2 σ2 k => ?_⟩
 ·
  show σ'.pos % 8 ≤ 8 * (dropB (s ++ T) (σ'.pos / 8)).size
  rw [drop_size]
  have := hf.pos
  omega
 ·
  have := h.size
  rw [drop_size, ByteArray.size_append]
  rw [ByteArray.size_append] at hk ⊢
  omega
 ·
  have k1 := k.up (sh_drop (s ++ T) T2 (σ'.pos / 8) hk)
  have e : ({ σ' with pos := σ'.pos % 8 } : St).up (σ'.pos / 8) = σ' := by
   unfold St.up
   have : σ'.pos % 8 + 8 * (σ'.pos / 8) = σ'.pos := by omega
   simp only [this]
  rw [e] at k1
  have k2 := g.more (pfx_app (s ++ T) T2) (fit_app h.fit) k1
  rw [bytes_assoc] at k2
  have k3 := h.go (T ++ T2) _ _ _ k2
  rw [← bytes_assoc] at k3
  have e2 : (σ2.up (σ'.pos / 8)).up off = σ2.up (σ'.pos / 8 + off) := by
   unfold St.up
   have : σ2.pos + 8 * (σ'.pos / 8) + 8 * off = σ2.pos + 8 * (σ'.pos / 8 + off) := by omega
   simp only [this]
  rw [e2] at k3
  exact k3
def z0 : Sp := ⟨[], fun _ => []⟩
theorem wf0 (N : Nat) : Wf N z0 := ⟨fun q => by simp [z0] at q, fun q => by simp [z0] at q⟩
theorem Wf.take {N : Nat} : ∀ (l : List UInt8) (z : Sp), Wf N z → (takeS N z l).1 = true → Wf N (takeS N z l).2
 | [], z, h, _ => h
 |
  c :: l, z, h, k => by
  by_cases q : (putS N z c).1 = true
  ·
   simp only [takeS, q, if_true] at k ⊢
   exact Wf.take l _ (h.put q) k
  · simp [takeS, q] at k
/-- What is the matter with so many bytes: 0, if nothing. -/
def ansF (N : Nat) (A : ByteArray) : Nat :=
 if (takeS N z0 (runF A).text).1 = false then 6
 else if (runF A).why = 2 then 0
 else if (runF A).why ≠ 0 then (runF A).why
 else if 0 < (takeS N z0 (runF A).text).2.fr.length then 6
 else if 0 < A.size - ((runF A).pos + 7) / 8 then 1 else 0
/-- A sorter with what was read put back. -/
def preR (R : Nat → List UInt8) (z : Sp) : Sp := ⟨z.fr, fun c => R c ++ z.ch c⟩
theorem putS_pre (N : Nat) (R : Nat → List UInt8) (z : Sp) (c : UInt8) : putS N (preR R z) c = ((putS N z c).1, preR R (putS N z c).2) := by
 unfold putS preR
 simp only
 by_cases h0 : z.fr.length = 0
 · simp only [if_pos h0]
 ·
  simp only [if_neg h0]
  by_cases h1 : z.fr.length = 1
  · simp only [if_pos h1]
  ·
   simp only [if_neg h1]
   by_cases h2 : z.fr.length + 1 = 2 + (z.fr.getD 1 0).toNat
   ·
    simp only [if_pos h2]
    refine Prod.ext rfl ?_
    simp only [Sp.mk.injEq, true_and]
    funext k
    split
    · rw [List.append_assoc]
    · rfl
   · simp only [if_neg h2]
theorem takeS_pre (N : Nat) (R : Nat → List UInt8) : ∀ (l : List UInt8) (z : Sp), takeS N (preR R z) l = ((takeS N z l).1, preR R (takeS N z l).2)
 | [], z => rfl
 |
  c :: l, z => by
  simp only [takeS, putS_pre]
  by_cases h : (putS N z c).1 = true
  · simp only [h, if_true]; exact takeS_pre N R l _
  · simp [h]
theorem Wf.of_pre {N : Nat} {R : Nat → List UInt8} {z : Sp} (h : Wf N (preR R z)) : Wf N z := ⟨h.a, h.b⟩
/-- A reader that has all of A, and lives; R was read. -/
structure Alive (R : Nat → List UInt8) (N : Nat) (A s : ByteArray) (m : Md) (σ : St) (z : Sp) (done : Bool) : Prop where
 got : takeS N z0 (runF A).text = (true, preR R z)
 is : (done = false ∧ (∃ off, Carry A s m σ off) ∧ σ.text = (runF A).text) ∨ (done = true ∧ (runF A).why = 0 ∧ s = .empty ∧ m = ⟨true, 0, none⟩ ∧ σ = ⟨0, [], 0, false⟩ ∧ ((runF A).pos + 7) / 8 = A.size)
theorem runF_empty : (runF .empty).why = 2 ∧ (runF .empty).text = [] := by
 have e : stepM M0 .empty start = stepM M0 .empty start := rfl
 constructor <;> kernel_rfl
theorem alive0 (N : Nat) : Alive (fun _ => []) N .empty .empty M0 start z0 false :=
 ⟨by rw [runF_empty.2]; rfl, Or.inl ⟨rfl, ⟨0, carry_start⟩, by rw [runF_empty.2]; rfl⟩⟩
theorem goes_why {s : ByteArray} {m m' : Md} {σ σ' : St} {y : Nat} (h : Goes s m σ y m' σ') (hm : m.over) : y = 0 ∧ m' = m ∧ σ' = σ := by
 cases h with
 | done _ => exact ⟨rfl, rfl, rfl⟩
 | stop h' _ => exact absurd hm h'
 | next h' _ _ => exact absurd hm h'
/-- What is read of the bytes with T behind them. -/
theorem Alive.feed {R : Nat → List UInt8} {N : Nat} {A s T : ByteArray} {m m' : Md} {σ σ' : St} {z : Sp} {done : Bool} {y : Nat} (h : Alive R N A s m σ z done) (g : Goes (s ++ T) m σ y m' σ') :
 (runF (A ++ T)).why = y ∧ (runF (A ++ T)).text = (runF A).text ++ σ'.text.drop σ.text.length ∧ (y = 0 → (A ++ T).size - ((runF (A ++ T)).pos + 7) / 8 = (s ++ T).size - (σ'.pos + 7) / 8) := by
 rcases h.is with ⟨_, ⟨off, hc⟩, ht⟩ | ⟨_, hy, rfl, rfl, rfl, hp⟩
 ·
  obtain ⟨e1, e2, _, e4⟩ := runF_of (hc.go T _ _ _ g)
  refine ⟨e1, ?_, fun q => ?_⟩
  ·
   rw [e2, St.up_text, ← ht]
   obtain ⟨l, hl⟩ := g.grow
   rw [← hl, List.drop_left]
  ·
   rw [e4 q, St.up_pos, ByteArray.size_append, ByteArray.size_append, hc.size]
   omega
 ·
  obtain ⟨rfl, rfl, rfl⟩ := goes_why g ⟨rfl, rfl, rfl⟩
  have e : runF (A ++ T) = runF A := by
   rcases run_mono (pfx_app A T) with e | e
   · exact e.symm
   · have := e.1; omega
  rw [e]
  refine ⟨hy, by simp, fun _ => ?_⟩
  rw [hp, ByteArray.size_append, ByteArray.size_append]
  show A.size + T.size - A.size = ByteArray.empty.size + T.size - 0
  have : ByteArray.empty.size = 0 := rfl
  omega
theorem Alive.take {R : Nat → List UInt8} {N : Nat} {A s T : ByteArray} {m m' : Md} {σ σ' : St} {z : Sp} {done : Bool} {y : Nat} (h : Alive R N A s m σ z done) (g : Goes (s ++ T) m σ y m' σ') : ((takeS N z (σ'.text.drop σ.text.length)).1, preR R (takeS N z (σ'.text.drop σ.text.length)).2) = takeS N z0 (runF (A ++ T)).text := by
 rw [(h.feed g).2.1, takeS_app, h.got]
 simp only [if_true]
 rw [takeS_pre]
/-- It lives on. -/
theorem Alive.more {R : Nat → List UInt8} {N : Nat} {A s T : ByteArray} {m m' : Md} {σ σ' : St} {z z' : Sp} {done : Bool} (h : Alive R N A s m σ z done) (hd : done = false) (g : Goes (s ++ T) m σ 2 m' σ') (ht : takeS N z0 (runF (A ++ T)).text = (true, preR R z')) : Alive R N (A ++ T) (dropB (s ++ T) (σ'.pos / 8)) m' { σ' with pos := σ'.pos % 8 } z' false := by
 rcases h.is with ⟨_, ⟨off, hc⟩, hx⟩ | ⟨hd', _⟩
 ·
  refine ⟨ht, Or.inl ⟨rfl, ⟨_, hc.step g⟩, ?_⟩⟩
  have e := (h.feed g).2.1
  rw [e, ← hx]
  show σ'.text = _
  obtain ⟨l, hl⟩ := g.grow
  rw [← hl, List.drop_left]
 · rw [hd] at hd'; simp at hd'
/-- It is done. -/
theorem Alive.end {R : Nat → List UInt8} {N : Nat} {A s T : ByteArray} {m m' : Md} {σ σ' : St} {z z' : Sp} {done : Bool} (h : Alive R N A s m σ z done) (g : Goes (s ++ T) m σ 0 m' σ') (ht : takeS N z0 (runF (A ++ T)).text = (true, preR R z')) (hl : (s ++ T).size - (σ'.pos + 7) / 8 = 0) : Alive R N (A ++ T) .empty ⟨true, 0, none⟩ ⟨0, [], 0, false⟩ z' true := by
 obtain ⟨e1, _, e3⟩ := h.feed g
 refine ⟨ht, Or.inr ⟨rfl, e1, rfl, rfl, rfl, ?_⟩⟩
 have e4 := e3 rfl
 have hle : ((runF (A ++ T)).pos + 7) / 8 ≤ (A ++ T).size := by
  obtain ⟨m2, σ2, g2, _, h0, _⟩ := runF_goes (A ++ T)
  have := (g2.fit (start_fit _)).pos
  rw [(h0 e1).1] at this
  omega
 omega
/- The program's reader of frames in memory. -/
/-- The stream's reader, with other cells of its block turned. -/
theorem RdA.cellTo {S : Nat → Prop} {B : Nat} {w w' : World} {gx : Nat} {s : ByteArray} {m : Md} {σ : St} {vt : Value} {x x' : Ex} {p : Nat} (h : RdA S B w gx s m σ vt x p) (hz : w.heap.size ≤ w'.heap.size) (hrow : w'.rowIs gx x'.ty x'.n (rdCell s p vt x')) (h1 : x'.kp = x.kp) (h2 : x'.last = x.last) (h3 : x'.bare = x.bare) (h4 : x'.pl = x.pl) (h5 : x'.fx = x.fx) (h6 : x'.n = x.n)
 (hb : ∀ b, b < w.heap.size → b ≠ gx → vt.ownBlock = some b ∨ S b → w'.heap[b]? = w.heap[b]?) : RdA S B w' gx s m σ vt x' p := by
 have hpl : ∀ gp z1 n1 z2 n2, PlanOk S w gx vt gp z1 n1 z2 n2 → PlanOk S w' gx vt gp z1 n1 z2 n2 := by
  rintro gp z1 n1 z2 n2 ⟨g1, sy1, g2, sy2, q, S0, S1, S2⟩
  have e0 := hb gp q.fp.lt q.fp.nx (Or.inr S0)
  have e1 := hb g1 q.f1.lt q.f1.nx (Or.inr S1)
  have e2 := hb g2 q.f2.lt q.f2.nx (Or.inr S2)
  exact ⟨g1, sy1, g2, sy2, ⟨rangeAt_block q.r1 e0, rangeAt_block q.r2 e0, ⟨q.s1.tidy, q.s1.many, q.s1.row.of_block e1, q.s1.ok⟩, ⟨q.s2.tidy, q.s2.many, q.s2.row.of_block e2, q.s2.ok⟩, ⟨Nat.lt_of_lt_of_le q.fp.lt hz, q.fp.nx, q.fp.nv⟩, ⟨Nat.lt_of_lt_of_le q.f1.lt hz, q.f1.nx, q.f1.nv⟩, ⟨Nat.lt_of_lt_of_le q.f2.lt hz, q.f2.nx, q.f2.nv⟩⟩, S0, S1, S2⟩
 refine ⟨⟨h.rd.le, by rw [h6]; exact h.rd.big, hrow, ownsRow_frame h.rd.own (fun b e => hb b (h.rd.own.lt b e).2 (fun e2 => h.rd.ne (e2 ▸ e)) (Or.inl e)), h.rd.ne⟩, h1.trans h.kept, h2.trans h.last, h3.trans h.bare, h.few, ?_, ?_⟩
 ·
  have q := h.plan
  cases hm : m.plan with
  | none => rw [hm] at q; rw [h4]; exact q
  |
   some o =>
   rw [hm] at q
   obtain ⟨gp, k1, k2, k3⟩ := q
   exact ⟨gp, h4.trans k1, hpl _ _ _ _ _ k2, k3⟩
 ·
  rcases h.fix with q | ⟨gp, q, q2⟩
  · exact Or.inl (h5.trans q)
  · exact Or.inr ⟨gp, h5.trans q, hpl _ _ _ _ _ q2⟩
/-- Only blocks that there are. -/
theorem RdA.live {S : Nat → Prop} {B : Nat} {w : World} {gx : Nat} {s : ByteArray} {m : Md} {σ : St} {vt : Value} {x : Ex} {p : Nat} (h : RdA S B w gx s m σ vt x p) : RdA (fun b => S b ∧ b < w.heap.size) B w gx s m σ vt x p := by
 have hpl : ∀ gp z1 n1 z2 n2, PlanOk S w gx vt gp z1 n1 z2 n2 → PlanOk (fun b => S b ∧ b < w.heap.size) w gx vt gp z1 n1 z2 n2 := by
  rintro gp z1 n1 z2 n2 ⟨g1, sy1, g2, sy2, q, S0, S1, S2⟩
  exact ⟨g1, sy1, g2, sy2, q, ⟨S0, q.fp.lt⟩, ⟨S1, q.f1.lt⟩, ⟨S2, q.f2.lt⟩⟩
 refine ⟨h.rd, h.kept, h.last, h.bare, h.few, ?_, ?_⟩
 ·
  have q := h.plan
  cases hm : m.plan with
  | none => rw [hm] at q; exact q
  |
   some o =>
   rw [hm] at q
   obtain ⟨gp, k1, k2, k3⟩ := q
   exact ⟨gp, k1, hpl _ _ _ _ _ k2, k3⟩
 ·
  rcases h.fix with q | ⟨gp, q, q2⟩
  · exact Or.inl q
  · exact Or.inr ⟨gp, q, hpl _ _ _ _ _ q2⟩
theorem So.live {U : Nat → Prop} {B : Nat} {w : World} {gx o : Nat} {T : TypeId} {n : Nat} {f : Nat → Value} {gc N : Nat} {fc : Nat → Value} {vf : Value} {v : Nat → Value} {t : Nat} {z : Sp} (h : So U B w gx o T n f gc N fc vf v t z) : So (fun b => U b ∧ b < w.heap.size) B w gx o T n f gc N fc vf v t z :=
 ⟨h.row, h.room, h.f0, h.f1, h.few, h.crow, h.own, h.frt, h.buf, ⟨⟨h.inU.1, h.crow.lt⟩, fun g e => ⟨h.inU.2.1 g e, (h.own.lt _ e).2⟩, fun c hc g e => ⟨h.inU.2.2 c hc g e, by
  obtain ⟨off, lr, M, k1, _⟩ := h.buf c hc
  exact (k1.own.lt _ e).2⟩⟩, fun q => h.noU q.1, h.fc0, h.fv, h.apart⟩
/-- The blocks of a reader, and those that were made since. -/
def WN (W : Nat → Prop) (n n' : Nat) : Nat → Prop := fun b => W b ∨ (n ≤ b ∧ b < n')
/-- What else is kept. -/
structure Kw (w w' : World) (W : Nat → Prop) : Prop where
 os : w'.os = w.os
 tape : w'.tape = w.tape
 output : w'.output = w.output
 size : w.heap.size ≤ w'.heap.size
 block : ∀ b, b < w.heap.size → ¬ W b → w'.heap[b]? = w.heap[b]?
theorem Kw.refl (w : World) (W : Nat → Prop) : Kw w w W := ⟨rfl, rfl, rfl, Nat.le_refl _, fun _ _ _ => rfl⟩
theorem Kw.trans {w w1 w2 : World} {W W1 : Nat → Prop} (h : Kw w w1 W) (k : Kw w1 w2 W1) (hW : ∀ b, b < w.heap.size → W1 b → W b) : Kw w w2 W :=
 ⟨k.os.trans h.os, k.tape.trans h.tape, k.output.trans h.output, Nat.le_trans h.size k.size, fun b hb hw => (k.block b (by have := h.size; omega) (fun e => hw (hW b hb e))).trans (h.block b hb hw)⟩
theorem Kw.drewN {w w' : World} {W : Nat → Prop} (h : Kw w w' W) (q : Nat) : Kw w (w'.drewN q) W := ⟨h.os, h.tape, h.output, h.size, h.block⟩
theorem Kw.below {w w' : World} {W : Nat → Prop} (h : Below w.heap.size w w') : Kw w w' W := ⟨h.os, h.tape, h.output, h.size, fun b hb _ => h.block b hb⟩
/-- The sorter of a reader, whose cells are f; all its blocks lie in W. -/
structure Core (W U : Nat → Prop) (B : Nat) (w : World) (gx N : Nat) (f : Nat → Value) (gc : Nat) (fc : Nat → Value) (vf : Value) (v : Nat → Value) (t : Nat) (z : Sp) (dead done : Bool) : Prop where
 so : So U B w gx 10 88 14 f gc N fc vf v t z
 dd : f 12 = .bool dead
 dn : f 13 = .bool done
 gW : W gx
 uW : ∀ b, U b → W b
 live : ∀ b, W b → b < w.heap.size
/-- What the sorter holds of so many bytes. -/
def gotF (N : Nat) (A : ByteArray) : Sp := (takeS N z0 (runF A).text).2
/-- A reader that is dead, and had all of A; R was read. -/
def MemD (W : Nat → Prop) (B : Nat) (w : World) (gx N : Nat) (A : ByteArray) (R : Nat → List UInt8) : Prop :=
 ∃ U f gc fc vf v t z, Core W U B w gx N f gc fc vf v t z true false ∧ t ≤ 5000 ∧ gotF N A = preR R z
/-- A reader in memory, whatever bytes it had. -/
structure MemS (W S U : Nat → Prop) (B : Nat) (w : World) (gx N : Nat) (s : ByteArray) (m : Md) (σ : St) (vt : Value) (x : Ex) (gc : Nat) (fc : Nat → Value) (vf : Value) (v : Nat → Value) (t : Nat) (z : Sp) (dead done : Bool) : Prop where
 core : Core W U B w gx N (rdCell s σ.pos vt x) gc fc vf v t z dead done
 rd : RdA S B w gx s m σ vt x σ.pos
 ty : x.ty = 88
 nn : x.n = 14
 sep : ∀ b, U b → ¬ S b ∧ vt.ownBlock ≠ some b
 sW : ∀ b, S b → W b
 vW : ∀ b, vt.ownBlock = some b → W b
/-- A reader that lives, and has all of A; R was read. -/
def MemA (W : Nat → Prop) (B : Nat) (w : World) (gx N : Nat) (A : ByteArray) (R : Nat → List UInt8) (done : Bool) : Prop :=
 ∃ S U s m σ vt x gc fc vf v z, MemS W S U B w gx N s m σ vt x gc fc vf v (runF A).text.length z false done ∧ Alive R N A s m σ z done
theorem runF_text (A : ByteArray) : (runF A).text.length ≤ 5000 := by
 obtain ⟨m2, σ2, g2, ht, _, _⟩ := runF_goes A
 have := (g2.fit (start_fit _)).text
 rw [ht] at this
 exact this
theorem Core.frame {W U : Nat → Prop} {B : Nat} {w w' : World} {gx N : Nat} {f f' : Nat → Value} {gc : Nat} {fc : Nat → Value} {vf : Value} {v : Nat → Value} {t : Nat} {z : Sp} {dead done dead' done' : Bool} (h : Core W U B w gx N f gc fc vf v t z dead done) (hz : w.heap.size ≤ w'.heap.size) (hr : w'.rowIs gx 88 14 f') (h0 : f' 10 = f 10) (h1 : f' 11 = f 11) (h2 : f' 12 = .bool dead') (h3 : f' 13 = .bool done') (hU : ∀ b, U b → w'.heap[b]? = w.heap[b]?) : Core W U B w' gx N f' gc fc vf v t z dead' done' :=
 ⟨h.so.frame hr h0 h1 hU, h2, h3, h.gW, h.uW, fun b hb => Nat.lt_of_lt_of_le (h.live b hb) hz⟩
/-- Elsewhere. -/
theorem MemD.frame {W : Nat → Prop} {B : Nat} {w w' : World} {gx N : Nat} {A : ByteArray} {R : Nat → List UInt8} (h : MemD W B w gx N A R) (hz : w.heap.size ≤ w'.heap.size) (hW : ∀ b, W b → w'.heap[b]? = w.heap[b]?) : MemD W B w' gx N A R := by
 obtain ⟨U, f, gc, fc, vf, v, t, z, h, ht⟩ := h
 exact ⟨U, f, gc, fc, vf, v, t, z, h.frame hz (h.so.row.of_block (hW _ h.gW)) rfl rfl h.dd h.dn (fun b hb => hW b (h.uW b hb)), ht⟩
theorem MemA.frame {W : Nat → Prop} {B : Nat} {w w' : World} {gx N : Nat} {A : ByteArray} {R : Nat → List UInt8} {done : Bool} (h : MemA W B w gx N A R done) (hz : w.heap.size ≤ w'.heap.size) (hW : ∀ b, W b → w'.heap[b]? = w.heap[b]?) : MemA W B w' gx N A R done := by
 obtain ⟨S, U, s, m, σ, vt, x, gc, fc, vf, v, z, h, ha⟩ := h
 exact ⟨S, U, s, m, σ, vt, x, gc, fc, vf, v, z, ⟨h.core.frame hz (h.core.so.row.of_block (hW _ h.core.gW)) rfl rfl h.core.dd h.core.dn (fun b hb => hW b (h.core.uW b hb)), h.rd.frame hz (fun b _ q => by
  rcases q with q | q | q
  · rw [q]; exact hW _ h.core.gW
  · exact hW b (h.vW b q)
  · exact hW b (h.sW b q)), h.ty, h.nn, h.sep, h.sW, h.vW⟩, ha⟩
/- The program's reader of frames: NewReader. -/
theorem allowed_any (N : Nat) (w : World) (h1 : 1 ≤ N) (hN : N ≤ 8) :
 Calls Tryz.prog 51 #[.int .i64 (N : Int)] w fun e w' => e = .returned (.bool true) ∧ w' = w := by
 have d1 : decide ((1 : Int) ≤ (N : Int)) = true := by rw [decide_eq_true_iff]; omega
 have d2 : decide ((N : Int) ≤ 8) = true := by rw [decide_eq_true_iff]; omega
 clear h1 hN
 go_enter Tryz.func51, Tryz.ntmps51
 go_wp2
 go_ret
 exact ⟨by simp, rfl⟩
def newCellsR (gc N : Nat) : Array Value := #[.string .empty, .int .i64 0, .int .i64 0, .int .i64 0, .int .i64 0, .slice none 0 0, .bool false, .int .i64 0, .pointer none, .pointer none, .slice none 0 0, .slice (some ⟨gc, 0, none⟩) N N, .bool false, .bool false]
/-- The other cells of a new reader. -/
def newEx (gc N : Nat) : Ex := { kp := 0, last := false, bare := 0, pl := .pointer none, fx := .pointer none, ty := 88, n := 14, more := fun i => if i = 10 then .slice none 0 0 else if i = 11 then .slice (some ⟨gc, 0, none⟩) N N else .bool false }
theorem new_mem (B N gc : Nat) (w w2 : World) (hN : N ≤ 8) (hB : B ≤ w.heap.size) (hg : w.heap.size ≤ gc) (hrow : w2.rowIs gc 93 (3 * N) bz) (hb : Below w.heap.size w w2) :
 MemA (fun b => w.heap.size ≤ b ∧ b < (w2.alloc (.cells (newCellsR gc N) 88)).heap.size) B (w2.alloc (.cells (newCellsR gc N) 88)) w2.heap.size N .empty (fun _ => []) false := by
 have hs := hb.size
 have hgl := hrow.lt
 have hsz : (w2.alloc (.cells (newCellsR gc N) 88)).heap.size = w2.heap.size + 1 := by simp
 have hrow2 := hrow.alloc (.cells (newCellsR gc N) 88)
 have hr : (w2.alloc (.cells (newCellsR gc N) 88)).rowIs w2.heap.size 88 14 (rdCell .empty 0 (.slice none 0 0) (newEx gc N)) :=
  World.rowIs_alloc w2 (newCellsR gc N) 88 _ (fun i hi => by
   have hi2 : i < 14 := hi
   rcases (by omega : i = 0 ∨ i = 1 ∨ i = 2 ∨ i = 3 ∨ i = 4 ∨ i = 5 ∨ i = 6 ∨ i = 7 ∨ i = 8 ∨ i = 9 ∨ i = 10 ∨ i = 11 ∨ i = 12 ∨ i = 13) with e | e | e | e | e | e | e | e | e | e | e | e | e | e <;> subst e <;> first | rfl | simp [newCellsR, rdCell, newEx])
 generalize w2.alloc (.cells (newCellsR gc N) 88) = w3 at hsz hrow2 hr ⊢
 have hnil : ∀ l : List Value, l = [] → w3.ownsRow B 5 1 (.slice none 0 0) 0 l := fun l e => by rw [e]; exact World.ownsRow_nil _ _ _ _
 have ht : (runF ByteArray.empty).text.length = 0 := by rw [runF_empty.2]; rfl
 refine ⟨fun _ => False, fun b => b = gc, .empty, M0, start, .slice none 0 0, newEx gc N, gc, bz, .slice none 0 0, fun _ => .slice none 0 0, z0, ⟨⟨⟨hr, by omega, rfl, rfl, hN, hrow2, hnil _ rfl, Nat.zero_le _, fun c hc => ?_, ⟨rfl, fun g e => by simp [Value.ownBlock] at e, fun c hc g e => by simp [Value.ownBlock] at e⟩, ?_, by simp [Value.ownBlock], fun c hc g e => by simp [Value.ownBlock] at e, fun c hc d hd hne g e => by simp [Value.ownBlock] at e⟩, rfl, rfl, ⟨by omega, by omega⟩, fun b e => by subst e; exact ⟨hg, by omega⟩, fun b e => e.2⟩, ⟨⟨by omega, by show 10 ≤ 14; omega, hr, hnil _ rfl, by simp [Value.ownBlock]⟩, rfl, rfl, rfl, by show 0 ≤ 65535; omega, rfl, Or.inl rfl⟩, rfl, rfl, fun b _ => ⟨fun q => q, by simp [Value.ownBlock]⟩, fun b q => q.elim, fun b e => by simp [Value.ownBlock] at e⟩, alive0 N⟩
 ·
  have e0 : 3 * c % 3 = 0 := by omega
  have e1 : (3 * c + 1) % 3 = 1 := by omega
  have e2 : (3 * c + 2) % 3 = 2 := by omega
  refine ⟨0, 0, [], ⟨hrow2, by omega, ?_, ?_, ?_, hnil _ rfl, Nat.le_refl _, by simp [Value.ownBlock]⟩, fun _ => rfl, rfl, by rw [ht]; exact Nat.le_refl _⟩
  · unfold bz; rw [if_pos e0]
  · unfold bz; rw [if_neg (by omega), if_pos e1]; rfl
  · unfold bz; rw [if_neg (by omega), if_neg (by omega)]
 ·
  show ¬ w2.heap.size = gc
  omega
set_option maxRecDepth 4000 in
set_option maxHeartbeats 400000 in
theorem newReader_any (B N : Nat) (w : World) (h1 : 1 ≤ N) (hN : N ≤ 8) (hB : B ≤ w.heap.size) :
 Calls Tryz.prog 28 #[.int .i64 (N : Int)] w fun e w' => ∃ gx, e = .returned (.tuple #[.pointer (some ⟨gx, 0, none⟩), .int .i64 0]) ∧ w.heap.size ≤ gx ∧ MemA (fun b => w.heap.size ≤ b ∧ b < w'.heap.size) B w' gx N .empty (fun _ => []) false ∧ Below w.heap.size w w' := by
 go_enter Tryz.func28, Tryz.ntmps28
 go_wp2_with fail
 refine (allowed_any N w h1 hN).mono ?_
 rintro e w1 ⟨rfl, rfl⟩
 go_wp2_with fail
 refine (newSorter_any N w1 hN).mono ?_
 rintro e w2 ⟨gc, rfl, hg, hrow, hbel⟩
 have P := new_mem B N gc w1 w2 hN hB hg hrow hbel
 have hb2 : Below w1.heap.size w1 (w2.alloc (.cells (newCellsR gc N) 88)) := hbel.alloc hbel.size _
 have HS : Hid (w1.heap.size ≤ w2.heap.size) := hbel.size
 clear hrow hbel
 go_wp2
 go_ret2
 exact ⟨w2.heap.size, rfl, HS.out, P, hb2⟩
/- The program's reader of frames: what its steps leave in memory. -/
theorem kp_of_like {x x' : Ex} (h : x.like x') {s s' : ByteArray} {p p' : Nat} {vt vt' : Value} {i : Nat} (hi : 10 ≤ i) : rdCell s' p' vt' x' i = rdCell s p vt x i := by
 rw [rdCell_far hi, rdCell_far hi, h.more]
/-- Behind the stream's Feed. -/
theorem feed_mem {W S U : Nat → Prop} {B : Nat} {w w2 : World} {gx N : Nat} {s s2 : ByteArray} {m m2 : Md} {σ σ2 : St} {vt vt' : Value} {x x' : Ex} {gc : Nat} {fc : Nat → Value} {vf : Value} {v : Nat → Value} {t : Nat} {z : Sp} {dead done : Bool}
 (h : MemS W S U B w gx N s m σ vt x gc fc vf v t z dead done) (hl : x.like x') (k : Kp w w2 gx vt) (hv : ∀ g, vt'.ownBlock = some g → vt.ownBlock = some g ∨ w.heap.size ≤ g) (hr : RdA (SN S w.heap.size) B w2 gx s2 m2 σ2 vt' x' σ2.pos) :
 MemS (WN W w.heap.size w2.heap.size) (fun b => SN S w.heap.size b ∧ b < w2.heap.size) U B w2 gx N s2 m2 σ2 vt' x' gc fc vf v t z dead done ∧ Kw w w2 W := by
 have hlive := h.core.live
 have hU : ∀ b, U b → w2.heap[b]? = w.heap[b]? := fun b hb => k.block b (hlive b (h.core.uW b hb)) (fun e => h.core.so.noU (e ▸ hb)) (h.sep b hb).2
 have hrow : w2.rowIs gx 88 14 (rdCell s2 σ2.pos vt' x') := by
  have q := hr.rd.row
  rw [hl.ty, hl.n, h.ty, h.nn] at q
  exact q
 have hsz := k.size
 refine ⟨⟨⟨h.core.so.frame hrow (kp_of_like hl (by omega)) (kp_of_like hl (by omega)) hU, (kp_of_like hl (by omega)).trans h.core.dd, (kp_of_like hl (by omega)).trans h.core.dn, Or.inl h.core.gW, fun b hb => Or.inl (h.core.uW b hb), fun b hb => ?_⟩, hr.live, hl.ty.trans h.ty, hl.n.trans h.nn, fun b hb => ⟨fun q => ?_, fun e => ?_⟩, fun b q => ?_, fun b e => ?_⟩, ⟨k.os, k.tape, k.output, k.size, fun b hb hw => k.block b hb (fun e => hw (e ▸ h.core.gW)) (fun e => hw (h.vW b e))⟩⟩
 ·
  rcases hb with q | q
  · have := hlive b q; omega
  · exact q.2
 ·
  rcases q.1 with q | q
  · exact (h.sep b hb).1 q
  · have := hlive b (h.core.uW b hb); omega
 ·
  rcases hv b e with q | q
  · exact (h.sep b hb).2 q
  · have := hlive b (h.core.uW b hb); omega
 ·
  rcases q.1 with q1 | q1
  · exact Or.inl (h.sW b q1)
  · exact Or.inr ⟨q1, q.2⟩
 ·
  rcases hv b e with q | q
  · exact Or.inl (h.vW b q)
  · exact Or.inr ⟨q, (hr.rd.own.lt b e).2⟩
theorem rd_upd {s : ByteArray} {p : Nat} {vt : Value} {x : Ex} {k : Nat} (hk : 10 ≤ k) (u : Value) (i : Nat) : rdCell s p vt { x with more := upd1 x.more k u } i = upd1 (rdCell s p vt x) k u i := by
 by_cases e : i = k
 ·
  subst e
  rw [upd1_eq, rdCell_far hk]
  exact upd1_eq _ _ _
 ·
  rw [upd1_ne e]
  by_cases q : 10 ≤ i
  ·
   rw [rdCell_far q, rdCell_far q]
   exact upd1_ne e
  ·
   unfold rdCell
   rcases (by omega : i = 0 ∨ i = 1 ∨ i = 2 ∨ i = 3 ∨ i = 4 ∨ i = 5 ∨ i = 6 ∨ i = 7 ∨ i = 8 ∨ i = 9) with e | e | e | e | e | e | e | e | e | e <;> subst e <;> rfl
/-- Behind the sorter's Take. -/
theorem take_mem {W S U : Nat → Prop} {B : Nat} {w w3 : World} {gx N : Nat} {s : ByteArray} {m : Md} {σ : St} {vt : Value} {x : Ex} {gc : Nat} {fc fc' : Nat → Value} {vf vf' : Value} {v v' : Nat → Value} {t t' : Nat} {z z' : Sp} {dead done : Bool}
 (h : MemS W S U B w gx N s m σ vt x gc fc vf v t z dead done) (hs : So (SN U w.heap.size) B w3 gx 10 88 14 (upd1 (rdCell s σ.pos vt x) 10 vf') gc N fc' vf' v' t' z') (k : Kq w w3 gx U) :
 MemS (WN W w.heap.size w3.heap.size) S (fun b => SN U w.heap.size b ∧ b < w3.heap.size) B w3 gx N s m σ vt { x with more := upd1 x.more 10 vf' } gc fc' vf' v' t' z' dead done ∧ Kw w w3 W := by
 have hlive := h.core.live
 have hsz := k.size
 have ef : upd1 (rdCell s σ.pos vt x) 10 vf' = rdCell s σ.pos vt { x with more := upd1 x.more 10 vf' } := by
  funext i; exact (rd_upd (by omega) vf' i).symm
 rw [ef] at hs
 have hsl := hs.live
 refine ⟨⟨⟨hsl, ?_, ?_, Or.inl h.core.gW, fun b hb => ?_, fun b hb => ?_⟩, h.rd.cellTo hsz ?_ rfl rfl rfl rfl rfl rfl (fun b hb hbx q => ?_), h.ty, h.nn, fun b hb => ⟨fun q => ?_, fun e => ?_⟩, fun b q => Or.inl (h.sW b q), fun b e => Or.inl (h.vW b e)⟩, ⟨k.os, k.tape, k.output, k.size, fun b hb hw => k.block b hb (fun e => hw (e ▸ h.core.gW)) (fun e => hw (h.core.uW b e))⟩⟩
 · rw [rd_upd (by omega), upd1_ne (by omega)]; exact h.core.dd
 · rw [rd_upd (by omega), upd1_ne (by omega)]; exact h.core.dn
 ·
  rcases hb.1 with q | q
  · exact Or.inl (h.core.uW b q)
  · exact Or.inr ⟨q, hb.2⟩
 ·
  rcases hb with q | q
  · have := hlive b q; omega
  · exact q.2
 ·
  have q := hs.row
  show w3.rowIs gx x.ty x.n _
  rw [h.ty, h.nn]; exact q
 ·
  refine k.block b hb hbx (fun e => ?_)
  rcases q with q | q
  · exact (h.sep b e).2 q
  · exact (h.sep b e).1 q
 ·
  rcases hb.1 with q1 | q1
  · exact (h.sep b q1).1 q
  · have := hlive b (h.sW b q); omega
 ·
  rcases hb.1 with q1 | q1
  · exact (h.sep b q1).2 e
  · have := hlive b (h.vW b e); omega
/-- A cell of the reader's own is laid anew: whether it is done. -/
theorem done_mem {W S U : Nat → Prop} {B : Nat} {w : World} {gx N : Nat} {s : ByteArray} {m : Md} {σ : St} {vt : Value} {x : Ex} {gc : Nat} {fc : Nat → Value} {vf : Value} {v : Nat → Value} {t : Nat} {z : Sp} {dead done : Bool}
 (h : MemS W S U B w gx N s m σ vt x gc fc vf v t z dead done) (d : Bool) :
 MemS W S U B (w.setCell ⟨gx, 13, none⟩ (.bool d)) gx N s m σ vt { x with more := upd1 x.more 13 (.bool d) } gc fc vf v t z dead d ∧ Kw w (w.setCell ⟨gx, 13, none⟩ (.bool d)) W := by
 have hz : (w.setCell ⟨gx, 13, none⟩ (.bool d)).heap.size = w.heap.size := by simp [World.setCell]
 have hrow : (w.setCell ⟨gx, 13, none⟩ (.bool d)).rowIs gx 88 14 (rdCell s σ.pos vt { x with more := upd1 x.more 13 (.bool d) }) :=
  (h.core.so.row.set 13 _).congr (fun i _ => (rd_upd (x := x) (by omega) (.bool d) i).symm)
 have hb : ∀ b, b ≠ gx → (w.setCell ⟨gx, 13, none⟩ (.bool d)).heap[b]? = w.heap[b]? := fun b hb => Below.heap_setCell _ _ _ _ hb
 refine ⟨⟨h.core.frame (Nat.le_of_eq hz.symm) hrow ?_ ?_ ?_ ?_ (fun b q => hb b (fun e => h.core.so.noU (e ▸ q))), h.rd.cellTo (Nat.le_of_eq hz.symm) ?_ rfl rfl rfl rfl rfl rfl (fun b _ hx _ => hb b hx), h.ty, h.nn, h.sep, h.sW, h.vW⟩, ⟨rfl, rfl, rfl, Nat.le_of_eq hz.symm, fun b _ hw => hb b (fun e => hw (e ▸ h.core.gW))⟩⟩
 · rw [rd_upd (by omega), upd1_ne (by omega)]
 · rw [rd_upd (by omega), upd1_ne (by omega)]
 · rw [rd_upd (by omega), upd1_ne (by omega)]; exact h.core.dd
 · rw [rd_upd (by omega), upd1_eq]
 ·
  show World.rowIs _ gx x.ty x.n _
  rw [h.ty, h.nn]; exact hrow
/- The program's reader of frames: take. -/
section
variable {N : Nat} {A : ByteArray}
theorem ans_frame (h : (takeS N z0 (runF A).text).1 = false) : ansF N A = 6 := by unfold ansF; rw [if_pos h]
theorem ans_more (h : (takeS N z0 (runF A).text).1 = true) (h2 : (runF A).why = 2) : ansF N A = 0 := by unfold ansF; rw [if_neg (by rw [h]; simp), if_pos h2]
theorem ans_why (h : (takeS N z0 (runF A).text).1 = true) (h2 : (runF A).why ≠ 2) (h3 : (runF A).why ≠ 0) : ansF N A = (runF A).why := by unfold ansF; rw [if_neg (by rw [h]; simp), if_neg h2, if_pos h3]
theorem ans_within (h : (takeS N z0 (runF A).text).1 = true) (h3 : (runF A).why = 0) (h4 : 0 < (gotF N A).fr.length) : ansF N A = 6 := by unfold gotF at h4; unfold ansF; rw [if_neg (by rw [h]; simp), if_neg (by omega), if_neg (by omega), if_pos h4]
theorem ans_left (h : (takeS N z0 (runF A).text).1 = true) (h3 : (runF A).why = 0) (h4 : ¬ 0 < (gotF N A).fr.length) (h5 : 0 < A.size - ((runF A).pos + 7) / 8) : ansF N A = 1 := by unfold gotF at h4; unfold ansF; rw [if_neg (by rw [h]; simp), if_neg (by omega), if_neg (by omega), if_neg h4, if_pos h5]
theorem ans_done (h : (takeS N z0 (runF A).text).1 = true) (h3 : (runF A).why = 0) (h4 : ¬ 0 < (gotF N A).fr.length) (h5 : ¬ 0 < A.size - ((runF A).pos + 7) / 8) : ansF N A = 0 := by unfold gotF at h4; unfold ansF; rw [if_neg (by rw [h]; simp), if_neg (by omega), if_neg (by omega), if_neg h4, if_neg h5]
end
theorem Alive.fit {R : Nat → List UInt8} {N : Nat} {A s : ByteArray} {m : Md} {σ : St} {z : Sp} {done : Bool} (h : Alive R N A s m σ z done) : Fit s σ ∧ σ.why = 0 ∧ s.size ≤ A.size := by
 rcases h.is with ⟨_, ⟨off, hc⟩, _⟩ | ⟨_, _, rfl, _, rfl, _⟩
 · exact ⟨hc.fit, hc.why, by have := hc.size; omega⟩
 · exact ⟨⟨Nat.zero_le _, Nat.zero_le _⟩, rfl, Nat.zero_le _⟩
theorem Alive.wf {R : Nat → List UInt8} {N : Nat} {A s : ByteArray} {m : Md} {σ : St} {z : Sp} {done : Bool} (h : Alive R N A s m σ z done) : Wf N z := by
 have := Wf.take (runF A).text z0 (wf0 N) (by rw [h.got])
 rw [h.got] at this
 exact this.of_pre
/-- What take leaves. -/
def RtP (W : Nat → Prop) (B : Nat) (w : World) (gx N : Nat) (A : ByteArray) (R : Nat → List UInt8) (e : Ending) (w' : World) : Prop :=
 e = .returned (.int .i64 (ansF N A : Nat)) ∧ Kw w w' W ∧ (ansF N A = 0 → MemA (WN W w.heap.size w'.heap.size) B w' gx N A R (decide ((runF A).why = 0))) ∧
  (ansF N A ≠ 0 → ∃ S U s m σ vt x gc fc vf v t z d, MemS (WN W w.heap.size w'.heap.size) S U B w' gx N s m σ vt x gc fc vf v t z false d ∧ t ≤ 5000 ∧ gotF N A = preR R z)
theorem WN.low {W : Nat → Prop} {n n1 n2 : Nat} (h : n ≤ n1) (h2 : n1 ≤ n2) : ∀ b, WN (WN W n n1) n1 n2 b → WN W n n2 b := fun b hb => by
 rcases hb with (hb | hb) | hb
 · exact Or.inl hb
 · exact Or.inr ⟨hb.1, by omega⟩
 · exact Or.inr ⟨by omega, hb.2⟩
theorem WN.old {W : Nat → Prop} {n n1 : Nat} : ∀ b, b < n → WN W n n1 b → W b := fun b hb q => by
 rcases q with q | q
 · exact q
 · omega
theorem MemS.reW {W W' S U : Nat → Prop} {B : Nat} {w : World} {gx N : Nat} {s : ByteArray} {m : Md} {σ : St} {vt : Value} {x : Ex} {gc : Nat} {fc : Nat → Value} {vf : Value} {v : Nat → Value} {t : Nat} {z : Sp} {dead done : Bool} (h : MemS W S U B w gx N s m σ vt x gc fc vf v t z dead done) (hW : ∀ b, W b → W' b) (hl : ∀ b, W' b → b < w.heap.size) : MemS W' S U B w gx N s m σ vt x gc fc vf v t z dead done :=
 ⟨⟨h.core.so, h.core.dd, h.core.dn, hW _ h.core.gW, fun b hb => hW b (h.core.uW b hb), hl⟩, h.rd, h.ty, h.nn, h.sep, fun b hb => hW b (h.sW b hb), fun b hb => hW b (h.vW b hb)⟩
theorem toList_txt (l : List UInt8) : (⟨l.toArray⟩ : ByteArray).data.toList = l := by simp
theorem size_txt (l : List UInt8) : (⟨l.toArray⟩ : ByteArray).size = l.length := by rw [size_list, toList_txt]
/-- Behind Feed and Take. -/
structure Mid (W : Nat → Prop) (B : Nat) (w : World) (gx N : Nat) (A : ByteArray) (R : Nat → List UInt8) (z : Sp) (s2 : ByteArray) (m2 : Md) (σ2 : St) (S U : Nat → Prop) (vt : Value) (x : Ex) (gc : Nat) (fc : Nat → Value) (vf : Value) (v : Nat → Value) (done : Bool) (w3 : World) : Prop where
 mem : MemS (WN W w.heap.size w3.heap.size) S U B w3 gx N s2 m2 σ2 vt x gc fc vf v (runF A).text.length z false done
 kw : Kw w w3 W
 got : gotF N A = preR R z
set_option maxHeartbeats 1000000 in
theorem mid_of {W S U : Nat → Prop} {R : Nat → List UInt8} {B : Nat} {w w2 w3 : World} {gx N : Nat} {A T s s2 : ByteArray} {m m' m2 : Md} {σ σ' σ2 : St} {vt vt' : Value} {x x' : Ex} {gc : Nat} {fc : Nat → Value} {vf : Value} {v : Nat → Value} {z : Sp} {done : Bool} {y : Nat} {e : Ending}
 (h : MemS W S U B w gx N s m σ vt x gc fc vf v (runF A).text.length z false done) (ha : Alive R N A s m σ z done) (g : Goes (s ++ T) m σ y m' σ') (hl : x.like x') (k : Kp w w2 gx vt) (hv : ∀ g, vt'.ownBlock = some g → vt.ownBlock = some g ∨ w.heap.size ≤ g) (hr : RdA (SN S w.heap.size) B w2 gx s2 m2 σ2 vt' x' σ2.pos)
 (ht : TakeP U B w2 gx 10 88 14 (rdCell s2 σ2.pos vt' x') gc N ((runF A).text.length + (⟨(σ'.text.drop σ.text.length).toArray⟩ : ByteArray).size) (takeS N z (⟨(σ'.text.drop σ.text.length).toArray⟩ : ByteArray).data.toList) e w3) :
 e = .returned (.bool (takeS N z0 (runF (A ++ T)).text).1) ∧ ∃ S' U' x'' fc' vf' v' z', Mid W B w gx N (A ++ T) R z' s2 m2 σ2 S' U' vt' x'' gc fc' vf' v' done w3 := by
 obtain ⟨hM2, hk2⟩ := feed_mem h hl k hv hr
 rw [toList_txt, size_txt] at ht
 have etk := ha.take g
 have et : (runF A).text.length + (σ'.text.drop σ.text.length).length = (runF (A ++ T)).text.length := by rw [(ha.feed g).2.1, List.length_append]
 rw [et] at ht
 obtain ⟨vf', fc', v', he, hs, hk⟩ := ht
 obtain ⟨hM3, hk3⟩ := take_mem hM2 hs hk
 have z1 := hk2.size
 have z2 := hk3.size
 refine ⟨by rw [he, ← etk], _, _, _, fc', vf', v', _, ⟨hM3.reW (WN.low z1 z2) (fun b hb => ?_), hk2.trans hk3 WN.old, by unfold gotF; rw [← etk]⟩⟩
 rcases hb with q | q
 · have := h.core.live b q; omega
 · exact q.2
theorem Mid.fail {W S U : Nat → Prop} {R : Nat → List UInt8} {z : Sp} {B : Nat} {w w3 : World} {gx N : Nat} {A s2 : ByteArray} {m2 : Md} {σ2 : St} {vt : Value} {x : Ex} {gc : Nat} {fc : Nat → Value} {vf : Value} {v : Nat → Value} {done : Bool} (h : Mid W B w gx N A R z s2 m2 σ2 S U vt x gc fc vf v done w3) (y : Nat) (hy : ansF N A = y) (h0 : y ≠ 0) : RtP W B w gx N A R (.returned (.int .i64 (y : Nat))) w3 :=
 ⟨by rw [hy], h.kw, fun q => absurd (hy.symm.trans q) h0, fun _ => ⟨S, U, s2, m2, σ2, vt, x, gc, fc, vf, v, _, z, done, h.mem, runF_text A, h.got⟩⟩
/- The program's reader of frames: take, the walk. -/
set_option maxRecDepth 4000 in
set_option maxHeartbeats 400000 in
theorem rtake_any (W : Nat → Prop) (B gx N : Nat) (A T : ByteArray) (R : Nat → List UInt8) (done : Bool) (w : World) (h : MemA W B w gx N A R done) (hB : B ≤ w.heap.size) (hA : A.size + T.size ≤ 140737488400000) (hgo : 1 < B) (hord : OrdIn w 1) :
 Calls Tryz.prog 69 #[.pointer (some ⟨gx, 0, none⟩), .string T] w (RtP W B w gx N (A ++ T) R) := by
 obtain ⟨S, U, s, m, σ, vt, x, gc, fc, vf, v, z, hM, ha⟩ := h
 obtain ⟨hf, hy, hsA⟩ := ha.fit
 have hwf := ha.wf
 have HFD : Hid (_) := gfeed_any S B gx s T m σ vt x w hM.rd hB (by omega) hf hy hgo hord (fun b hb => hM.core.live b (hM.sW b hb))
 clear hgo hord
 obtain ⟨X, hX⟩ : ∃ X, X = A ++ T := ⟨_, rfl⟩
 have HX : Hid (X = A ++ T) := hX
 rw [← hX]
 clear hX
 go_enter Tryz.func69, Tryz.ntmps69
 go_wp2_with fail
 refine Calls.mono HFD.out ?_
 rintro e w2 ⟨y, m', σ', vt', x', g, rfl, hl, k, hv, hcase⟩
 obtain ⟨q1, q2, q3⟩ := ha.feed g
 obtain ⟨s2, m2, σ2, hr, hmo, hen⟩ : ∃ s2 m2 σ2, RdA (SN S w.heap.size) B w2 gx s2 m2 σ2 vt' x' σ2.pos ∧ (y = 2 → s2 = dropB (s ++ T) (σ'.pos / 8) ∧ m2 = m' ∧ σ2 = { σ' with pos := σ'.pos % 8 }) ∧ (y = 0 → s2 = .empty ∧ m2 = ⟨true, 0, none⟩ ∧ σ2 = ⟨0, [], 0, false⟩) := by
  rcases hcase with ⟨q, hr⟩ | ⟨q, hr⟩
  · exact ⟨_, _, _, hr, fun _ => ⟨rfl, rfl, rfl⟩, fun e => absurd e q⟩
  · exact ⟨_, _, _, hr, fun e => by omega, fun _ => ⟨rfl, rfl, rfl⟩⟩
 have htl := size_txt (σ'.text.drop σ.text.length)
 have hft := (g.fit (fit_app hf)).text
 have hrt := runF_text A
 have hM2 := (feed_mem hM hl k hv hr).1
 have HTK : Hid (Calls Tryz.prog 92 #[.pointer (some ⟨gx, 10, none⟩), .string ⟨(σ'.text.drop σ.text.length).toArray⟩] w2 fun e w3 => e = .returned (.bool (takeS N z0 (runF (A ++ T)).text).1) ∧ ∃ S' U' x'' fc' vf' v' z', Mid W B w gx N (A ++ T) R z' s2 m2 σ2 S' U' vt' x'' gc fc' vf' v' done w3) :=
  (stake_any U B gx 10 88 14 _ gc N fc vf v _ z ⟨(σ'.text.drop σ.text.length).toArray⟩ w2 hM2.core.so (Nat.le_trans hB k.size) hwf (by rw [htl, List.length_drop]; omega)).mono (fun e w3 ht => mid_of hM ha g hl k hv hr ht)
 have HMO : Hid (y = 2 → ∀ z', takeS N z0 (runF (A ++ T)).text = (true, preR R z') → done = false ∧ Alive R N (A ++ T) s2 m2 σ2 z' false) := fun e1 z' e2 => by
  obtain ⟨rfl, rfl, rfl⟩ := hmo e1
  have hd : done = false := by
   rcases ha.is with ⟨q, _⟩ | ⟨_, _, rfl, rfl, rfl, _⟩
   · exact q
   · have := (goes_why g ⟨rfl, rfl, rfl⟩).1; omega
  subst e1
  exact ⟨hd, ha.more hd g e2⟩
 have HEN : Hid (y = 0 → ∀ z', takeS N z0 (runF (A ++ T)).text = (true, preR R z') → (s ++ T).size - (σ'.pos + 7) / 8 = 0 → Alive R N (A ++ T) s2 m2 σ2 z' true) := fun e1 z' e2 e3 => by
  obtain ⟨rfl, rfl, rfl⟩ := hen e1
  subst e1
  exact ha.end g e2 e3
 have HLE : Hid ((s ++ T).size - (σ'.pos + 7) / 8 ≤ 140737488400000) := by show _ ≤ _; rw [ByteArray.size_append]; omega
 obtain ⟨lf, hlf⟩ : ∃ lf, lf = if y = 0 then (s ++ T).size - (σ'.pos + 7) / 8 else 0 := ⟨_, rfl⟩
 have HQ : Hid (y = 0 → lf = (A ++ T).size - ((runF (A ++ T)).pos + 7) / 8 ∧ lf = (s ++ T).size - (σ'.pos + 7) / 8) := fun e => by
  rw [hlf, if_pos e]
  exact ⟨(q3 e).symm, rfl⟩
 unfold feedAns
 rw [← hlf]
 have hlf2 : lf ≤ 140737488400000 := by
  rw [hlf]
  split
  · exact HLE.out
  · omega
 clear hlf hmo hen hcase hr hft hrt hM2 hM ha g hl k hv hf hy hsA hwf HFD q2 q3 HLE htl
 generalize (⟨(σ'.text.drop σ.text.length).toArray⟩ : ByteArray) = txt at HTK ⊢
 rw [← HX.out] at q1 HMO HEN HQ HTK
 clear HX
 go_wp2_with fail
 refine Calls.mono HTK.out ?_
 rintro e w3 ⟨rfl, S', U', x'', fc', vf', v', z', hm⟩
 clear HTK
 by_cases hk : (takeS N z0 (runF X).text).1 = true
 ·
  have ek : takeS N z0 (runF X).text = (true, preR R z') := Prod.ext hk hm.got
  rcases (by omega : y = 2 ∨ (y ≠ 2 ∧ y ≠ 0) ∨ y = 0) with hy | ⟨hy2, hy0⟩ | hy
  ·
   obtain ⟨hd, hal⟩ := HMO.out hy z' ek
   have P : RtP W B w gx N X R (.returned (.int .i64 0)) w3 := by
    have ha0 := ans_more hk (q1.trans hy)
    refine ⟨by rw [ha0]; rfl, hm.kw, fun _ => ?_, fun q => absurd ha0 q⟩
    have e0 : decide ((runF X).why = 0) = false := by rw [decide_eq_false_iff_not]; omega
    rw [e0]
    subst hd
    exact ⟨S', U', s2, m2, σ2, vt', x'', gc, fc', vf', v', z', hm.mem, hal⟩
   rw [hk]
   subst hy
   clear HMO HEN HQ hm hk ek q1 hal
   go_wp2
   go_ret
   exact P
  ·
   have P := hm.fail y ((ans_why hk (by omega) (by omega)).trans q1) hy0
   have b2 : ((y : Int) == 2) = false := by rw [beq_eq_false_iff_ne]; omega
   have b0 : ((y : Int) != 0) = true := by rw [bne_iff_ne]; omega
   rw [hk]
   clear HMO HEN HQ hm hk ek q1 hy2 hy0
   go_wp2
   go_ret
   exact P
  ·
   obtain ⟨hl1, hl2⟩ := HQ.out hy
   have HWI : Hid (Calls Tryz.prog 93 #[.pointer (some ⟨gx, 10, none⟩)] w3 fun e w' => e = .returned (.bool (decide (0 < (gotF N X).fr.length))) ∧ w' = w3) := by
    have efr : (gotF N X).fr = z'.fr := by rw [hm.got]; rfl
    rw [efr]
    exact within_any U' B gx 10 _ 14 _ gc N fc' vf' v' _ z' w3 hm.mem.core.so
   have e13 := hm.mem.core.so.row.cell (i := 13) (by omega)
   rw [hm.mem.core.dn] at e13
   have f13 := hm.mem.core.so.row.frozen 13
   rw [hk]
   by_cases hfr : 0 < (gotF N X).fr.length
   ·
    have P := hm.fail 6 (ans_within hk (q1.trans hy) hfr) (by omega)
    have dfr : decide (0 < (gotF N X).fr.length) = true := by rw [decide_eq_true_iff]; exact hfr
    rw [dfr] at HWI
    subst hy
    clear HMO HEN HQ hm hk ek q1 hl1 hl2
    go_wp2_with fail
    refine Calls.mono HWI.out ?_
    rintro e w4 ⟨rfl, rfl⟩
    go_wp2
    go_ret
    exact P
   ·
    have dfr : decide (0 < (gotF N X).fr.length) = false := by rw [decide_eq_false_iff_not]; exact hfr
    rw [dfr] at HWI
    by_cases hlf : 0 < lf
    ·
     have P := hm.fail 1 (ans_left hk (q1.trans hy) hfr (by omega)) (by omega)
     have hlI : (0 : Int) < (lf : Int) := by omega
     subst hy
     clear HMO HEN HQ hm hk ek q1 hl1 hl2
     go_wp2_with fail
     refine Calls.mono HWI.out ?_
     rintro e w4 ⟨rfl, rfl⟩
     go_wp2
     go_ret
     exact P
    ·
     have hal := HEN.out hy z' ek (by omega)
     have P : RtP W B w gx N X R (.returned (.int .i64 0)) (w3.setCell ⟨gx, 13, none⟩ (.bool true)) := by
      have ha0 := ans_done hk (q1.trans hy) hfr (by omega)
      have e0 : decide ((runF X).why = 0) = true := by rw [decide_eq_true_iff]; omega
      have hz : (w3.setCell ⟨gx, 13, none⟩ (.bool true)).heap.size = w3.heap.size := by simp [World.setCell]
      obtain ⟨hm4, hk4⟩ := done_mem hm.mem true
      refine ⟨by rw [ha0]; rfl, hm.kw.trans hk4 WN.old, fun _ => ?_, fun q => absurd ha0 q⟩
      rw [e0, hz]
      exact ⟨S', U', s2, m2, σ2, vt', _, gc, fc', vf', v', z', hm4, hal⟩
     have hl0 : lf = 0 := by omega
     subst hy hl0
     clear HMO HEN HQ hm hk ek q1 hl1 hl2 hal
     go_wp2_with fail
     refine Calls.mono HWI.out ?_
     rintro e w4 ⟨rfl, rfl⟩
     go_wp2
     go_ret
     exact P
 ·
  have hk' : (takeS N z0 (runF X).text).1 = false := by simpa using hk
  have P := hm.fail 6 (ans_frame hk') (by omega)
  rw [hk']
  clear HMO HEN HQ hm hk hk' q1
  go_wp2
  go_ret
  exact P
/- The program's reader of frames: Feed, Done. -/
def zeroCells : List Value := [.string .empty, .int .i64 0, .int .i64 0, .int .i64 0, .int .i64 0, .slice none 0 0, .bool false, .int .i64 0, .pointer none, .pointer none]
theorem row_setCells {b : Nat} {t : TypeId} {n : Nat} : ∀ (vs : List Value) (o : Nat) (w : World) (f : Nat → Value), w.rowIs b t n f → ∃ g, (w.setCells b o vs).rowIs b t n g ∧ ∀ i, i < o ∨ o + vs.length ≤ i → g i = f i
 | [], _, _, f, h => ⟨f, h, fun _ _ => rfl⟩
 |
  v :: r, o, w, f, h => by
  obtain ⟨g, hg, he⟩ := row_setCells r (o + 1) _ _ (h.set o v)
  refine ⟨g, hg, fun i hi => ?_⟩
  rw [List.length_cons] at hi
  rw [he i (by omega)]
  show (if i = o then v else f i) = f i
  rw [if_neg (by omega)]
theorem cells_kept {b : Nat} : ∀ (vs : List Value) (o : Nat) (w : World), (w.setCells b o vs).heap.size = w.heap.size ∧ (w.setCells b o vs).os = w.os ∧ (w.setCells b o vs).tape = w.tape ∧ (w.setCells b o vs).output = w.output ∧ ∀ k, k ≠ b → (w.setCells b o vs).heap[k]? = w.heap[k]?
 | [], _, _ => ⟨rfl, rfl, rfl, rfl, fun _ _ => rfl⟩
 |
  v :: r, o, w => by
  obtain ⟨h1, h2, h3, h4, h5⟩ := cells_kept r (o + 1) (w.setCell ⟨b, o, none⟩ v)
  have e : (w.setCell ⟨b, o, none⟩ v).heap.size = w.heap.size := by simp [World.setCell]
  exact ⟨h1.trans e, h2, h3, h4, fun k hk => (h5 k hk).trans (Below.heap_setCell _ _ _ _ hk)⟩
/-- A reader dies. -/
theorem die_mem {W S U : Nat → Prop} {B : Nat} {w : World} {gx N : Nat} {A s : ByteArray} {R : Nat → List UInt8} {m : Md} {σ : St} {vt : Value} {x : Ex} {gc : Nat} {fc : Nat → Value} {vf : Value} {v : Nat → Value} {t : Nat} {z : Sp} {dead done : Bool}
 (h : MemS W S U B w gx N s m σ vt x gc fc vf v t z dead done) (ht : t ≤ 5000) (hg : gotF N A = preR R z) :
 MemD W B (((w.setCell ⟨gx, 12, none⟩ (.bool true)).setCell ⟨gx, 13, none⟩ (.bool false)).setCells gx 0 zeroCells) gx N A R ∧ Kw w (((w.setCell ⟨gx, 12, none⟩ (.bool true)).setCell ⟨gx, 13, none⟩ (.bool false)).setCells gx 0 zeroCells) W := by
 obtain ⟨h1, h2, h3, h4, h5⟩ := cells_kept (b := gx) zeroCells 0 ((w.setCell ⟨gx, 12, none⟩ (.bool true)).setCell ⟨gx, 13, none⟩ (.bool false))
 obtain ⟨g, hrow, he⟩ := row_setCells zeroCells 0 _ _ ((h.core.so.row.set 12 (.bool true)).set 13 (.bool false))
 have hz2 : ((w.setCell ⟨gx, 12, none⟩ (.bool true)).setCell ⟨gx, 13, none⟩ (.bool false)).heap.size = w.heap.size := by simp [World.setCell]
 have hzl : zeroCells.length = 10 := rfl
 rw [hzl] at he
 generalize ((w.setCell ⟨gx, 12, none⟩ (.bool true)).setCell ⟨gx, 13, none⟩ (.bool false)).setCells gx 0 zeroCells = w2 at h1 h2 h3 h4 h5 hrow ⊢
 have hz : w2.heap.size = w.heap.size := h1.trans hz2
 have hb : ∀ b, b ≠ gx → w2.heap[b]? = w.heap[b]? := fun b hb => (h5 b hb).trans ((Below.heap_setCell _ _ _ _ hb).trans (Below.heap_setCell _ _ _ _ hb))
 refine ⟨⟨U, g, gc, fc, vf, v, t, z, h.core.frame (Nat.le_of_eq hz.symm) hrow ?_ ?_ ?_ ?_ (fun b q => hb b (fun e => h.core.so.noU (e ▸ q))), ht, hg⟩, ⟨h2, h3, h4, Nat.le_of_eq hz.symm, fun b _ hw => hb b (fun e => hw (e ▸ h.core.gW))⟩⟩
 · rw [he 10 (by omega), if_neg (by omega), if_neg (by omega)]
 · rw [he 11 (by omega), if_neg (by omega), if_neg (by omega)]
 · rw [he 12 (by omega), if_neg (by omega), if_pos rfl]
 · rw [he 13 (by omega), if_pos rfl]
/-- What Feed leaves of a reader that lived. -/
def FdP (W : Nat → Prop) (B : Nat) (w : World) (gx N : Nat) (A : ByteArray) (R : Nat → List UInt8) (e : Ending) (w' : World) : Prop :=
 e = .returned (.int .i64 (ansF N A : Nat)) ∧ Kw w w' W ∧ (ansF N A = 0 → MemA (WN W w.heap.size w'.heap.size) B w' gx N A R (decide ((runF A).why = 0))) ∧ (ansF N A ≠ 0 → MemD (WN W w.heap.size w'.heap.size) B w' gx N A R)
theorem rdone_A (W : Nat → Prop) (B gx N : Nat) (A : ByteArray) (R : Nat → List UInt8) (done : Bool) (w : World) (h : MemA W B w gx N A R done) :
 Calls Tryz.prog 10 #[.pointer (some ⟨gx, 0, none⟩)] w fun e w' => e = .returned (.bool done) ∧ w' = w := by
 obtain ⟨S, U, s, m, σ, vt, x, gc, fc, vf, v, z, hM, ha⟩ := h
 have e13 := hM.core.so.row.cell (i := 13) (by omega)
 rw [hM.core.dn] at e13
 clear hM ha
 go_enter Tryz.func10, Tryz.ntmps10
 go_wp2
 go_ret
 exact ⟨rfl, rfl⟩
theorem rdone_D (W : Nat → Prop) (B gx N : Nat) (A : ByteArray) (R : Nat → List UInt8) (w : World) (h : MemD W B w gx N A R) :
 Calls Tryz.prog 10 #[.pointer (some ⟨gx, 0, none⟩)] w fun e w' => e = .returned (.bool false) ∧ w' = w := by
 obtain ⟨U, f, gc, fc, vf, v, t, z, hM, ha⟩ := h
 have e13 := hM.so.row.cell (i := 13) (by omega)
 rw [hM.dn] at e13
 clear hM ha
 go_enter Tryz.func10, Tryz.ntmps10
 go_wp2
 go_ret
 exact ⟨rfl, rfl⟩
theorem rfeed_D (W : Nat → Prop) (B gx N : Nat) (A T : ByteArray) (R : Nat → List UInt8) (w : World) (h : MemD W B w gx N A R) :
 Calls Tryz.prog 53 #[.pointer (some ⟨gx, 0, none⟩), .string T] w fun e w' => e = .returned (.int .i64 7) ∧ w' = w := by
 obtain ⟨U, f, gc, fc, vf, v, t, z, hM, ha⟩ := h
 have e12 := hM.so.row.cell (i := 12) (by omega)
 rw [hM.dd] at e12
 clear hM ha
 go_enter Tryz.func53, Tryz.ntmps53
 go_wp2
 go_ret
 exact ⟨rfl, rfl⟩
set_option maxRecDepth 4000 in
set_option maxHeartbeats 400000 in
theorem rfeed_A (W : Nat → Prop) (B gx N : Nat) (A T : ByteArray) (R : Nat → List UInt8) (done : Bool) (w : World) (h : MemA W B w gx N A R done) (hB : B ≤ w.heap.size) (hA : A.size + T.size ≤ 140737488400000) (hgo : 1 < B) (hord : OrdIn w 1) :
 Calls Tryz.prog 53 #[.pointer (some ⟨gx, 0, none⟩), .string T] w (FdP W B w gx N (A ++ T) R) := by
 have HT : Hid (_) := rtake_any W B gx N A T R done w h hB hA hgo hord
 obtain ⟨S, U, s, m, σ, vt, x, gc, fc, vf, v, z, hM, ha⟩ := h
 have e12 := hM.core.so.row.cell (i := 12) (by omega)
 rw [hM.core.dd] at e12
 clear hM ha hgo hord hB hA
 obtain ⟨X, hX⟩ : ∃ X, X = A ++ T := ⟨_, rfl⟩
 rw [← hX] at HT ⊢
 clear hX
 go_enter Tryz.func53, Tryz.ntmps53
 go_wp2_with fail
 refine Calls.mono HT.out ?_
 rintro e w2 ⟨rfl, hk, h0, h1⟩
 clear HT e12
 by_cases hz : ansF N X = 0
 ·
  have hM := h0 hz
  have P : FdP W B w gx N X R (.returned (.int .i64 0)) w2 := ⟨by rw [hz]; rfl, hk, fun _ => hM, fun q => absurd hz q⟩
  rw [hz]
  clear h0 h1 hM hk
  go_wp2
  go_ret
  exact P
 ·
  obtain ⟨S, U, s, m, σ, vt, x, gc, fc, vf, v, t, z, d, hM, ht, hg⟩ := h1 hz
  obtain ⟨hD, hkD⟩ := die_mem hM ht hg
  have hzz : (((w2.setCell ⟨gx, 12, none⟩ (.bool true)).setCell ⟨gx, 13, none⟩ (.bool false)).setCells gx 0 zeroCells).heap.size = w2.heap.size := ((cells_kept zeroCells 0 _).1).trans (by simp [World.setCell])
  have P : FdP W B w gx N X R (.returned (.int .i64 (ansF N X : Nat))) (((w2.setCell ⟨gx, 12, none⟩ (.bool true)).setCell ⟨gx, 13, none⟩ (.bool false)).setCells gx 0 zeroCells) := ⟨rfl, hk.trans hkD WN.old, fun q => absurd q hz, fun _ => by rw [hzz]; exact hD⟩
  have hb0 : (((ansF N X : Nat) : Int) != 0) = true := by rw [bne_iff_ne]; omega
  have r : ∀ i, i < 14 → w2.cell? ⟨gx, i, none⟩ = some (rdCell s σ.pos vt x i) := fun i hi => hM.core.so.row.cell (i := i) hi
  have fz : ∀ i, w2.frozen? ⟨gx, i, none⟩ = false := fun i => hM.core.so.row.frozen i
  generalize ansF N X = y at hb0 P ⊢
  clear hD hkD hzz h0 h1 hk hM
  go_wp2_with fail
  go_ret
  exact P
/- The program's reader of frames: Read. -/
/-- What was read, with what is read now. -/
def readR (R : Nat → List UInt8) (c : Nat) (l : List UInt8) (d : Nat) : List UInt8 := if d = c then R d ++ l else R d
theorem pre_read (R : Nat → List UInt8) (z : Sp) (c m : Nat) : preR (readR R c ((z.ch c).take m)) { z with ch := fun d => if d = c then (z.ch c).drop m else z.ch d } = preR R z := by
 unfold preR readR
 simp only [Sp.mk.injEq, true_and]
 funext d
 by_cases e : d = c
 ·
  subst e
  simp only [if_true]
  rw [List.append_assoc, List.take_append_drop]
 · simp only [if_neg e]
/-- The bytes that Read gives. -/
def nextF (N : Nat) (A : ByteArray) (R : Nat → List UInt8) (c m : Nat) : List UInt8 := (((gotF N A).ch c).drop (R c).length).take m
theorem next_of {N : Nat} {A : ByteArray} {R : Nat → List UInt8} {z : Sp} (h : gotF N A = preR R z) (c m : Nat) : (z.ch c).take m = nextF N A R c m := by
 unfold nextF
 rw [h]
 show _ = List.take m (List.drop (R c).length (R c ++ z.ch c))
 rw [List.drop_left]
def RrA (W : Nat → Prop) (B : Nat) (w : World) (gx N : Nat) (A : ByteArray) (R : Nat → List UInt8) (done : Bool) (c m : Nat) (e : Ending) (w' : World) : Prop :=
 e = .returned (.tuple #[.string ⟨(nextF N A R c m).toArray⟩, .int .i64 0]) ∧ Kw w w' W ∧ MemA (WN W w.heap.size w'.heap.size) B w' gx N A (readR R c (nextF N A R c m)) done
def RrD (W : Nat → Prop) (B : Nat) (w : World) (gx N : Nat) (A : ByteArray) (R : Nat → List UInt8) (c m : Nat) (e : Ending) (w' : World) : Prop :=
 e = .returned (.tuple #[.string ⟨(nextF N A R c m).toArray⟩, .int .i64 0]) ∧ Kw w w' W ∧ MemD (WN W w.heap.size w'.heap.size) B w' gx N A (readR R c (nextF N A R c m))
/-- The walk, whatever the reader's state. -/
theorem rread_of (U : Nat → Prop) (B gx N : Nat) (f : Nat → Value) (gc : Nat) (fc : Nat → Value) (vf : Value) (v : Nat → Value) (t : Nat) (z : Sp) (c : Nat) (most : Int) (w : World) (h : So U B w gx 10 88 14 f gc N fc vf v t z) (hc : c < N) (ht : t ≤ 1000000) (hm : most ≤ 9223372036854775807) (hm0 : -9223372036854775808 ≤ most) :
 Calls Tryz.prog 48 #[.pointer (some ⟨gx, 0, none⟩), .int .i64 (c : Int), .int .i64 most] w fun e w' => e = .returned (.tuple #[.string ⟨((z.ch c).take most.toNat).toArray⟩, .int .i64 0]) ∧ ∃ fc' v', So (SN U w.heap.size) B w' gx 10 88 14 f gc N fc' vf v' t { z with ch := fun d => if d = c then (z.ch c).drop most.toNat else z.ch d } ∧ Kq w w' gx U := by
 have HH : Hid (Calls Tryz.prog 66 #[.pointer (some ⟨gx, 10, none⟩), .int .i64 (c : Int)] w fun e w' => e = .returned (.bool true) ∧ w' = w) := by
  have q := has_any U B gx 10 88 14 f gc N fc vf v t z (c : Int) w h
  have e : decide (0 ≤ (c : Int) ∧ (c : Int) < (N : Int)) = true := by rw [decide_eq_true_iff]; omega
  rw [e] at q
  exact q
 have HR : Hid (Calls Tryz.prog 67 #[.pointer (some ⟨gx, 10, none⟩), .int .i64 (c : Int), .int .i64 most] w (ReadP U B w gx 10 88 14 f gc N t vf z c most.toNat)) := sread_any U B gx 10 88 14 f gc N fc vf v t z c most w h hc ht hm hm0
 clear h hm hm0 ht
 generalize most.toNat = mx at HR ⊢
 go_enter Tryz.func48, Tryz.ntmps48
 go_wp2_with fail
 refine Calls.mono HH.out ?_
 rintro e w1 ⟨rfl, rfl⟩
 go_wp2_with fail
 refine Calls.mono HR.out ?_
 rintro e w2 ⟨fc', v', rfl, hs, hk⟩
 clear HR HH
 go_wp2
 go_ret2
 exact ⟨rfl, fc', v', hs, hk⟩
theorem So.samef {U : Nat → Prop} {B : Nat} {w : World} {gx o : Nat} {T : TypeId} {n : Nat} {f : Nat → Value} {gc N : Nat} {fc : Nat → Value} {vf : Value} {v : Nat → Value} {t : Nat} {z : Sp} (h : So U B w gx o T n f gc N fc vf v t z) : upd1 f o vf = f := by
 funext i
 unfold upd1
 by_cases e : i = o
 · subst e; rw [if_pos rfl, h.f0]
 · rw [if_neg e]
theorem rread_D (W : Nat → Prop) (B gx N : Nat) (A : ByteArray) (R : Nat → List UInt8) (c : Nat) (most : Int) (w : World) (h : MemD W B w gx N A R) (hc : c < N) (hm : most ≤ 9223372036854775807) (hm0 : -9223372036854775808 ≤ most) :
 Calls Tryz.prog 48 #[.pointer (some ⟨gx, 0, none⟩), .int .i64 (c : Int), .int .i64 most] w (RrD W B w gx N A R c most.toNat) := by
 obtain ⟨U, f, gc, fc, vf, v, t, z, hM, ht, hg⟩ := h
 refine (rread_of U B gx N f gc fc vf v t z c most w hM.so hc (by omega) hm hm0).mono ?_
 rintro e w' ⟨he, fc', v', hs, hk⟩
 have hn := next_of hg c most.toNat
 have hsz := hk.size
 refine ⟨by rw [he, hn], ⟨hk.os, hk.tape, hk.output, hk.size, fun b hb hw => hk.block b hb (fun e => hw (e ▸ hM.gW)) (fun e => hw (hM.uW b e))⟩, ⟨_, f, gc, fc', vf, v', t, _, ⟨hs.live, hM.dd, hM.dn, Or.inl hM.gW, fun b hb => ?_, fun b hb => ?_⟩, ht, ?_⟩⟩
 ·
  rcases hb.1 with q | q
  · exact Or.inl (hM.uW b q)
  · exact Or.inr ⟨q, hb.2⟩
 ·
  rcases hb with q | q
  · have := hM.live b q; omega
  · exact q.2
 · rw [← hn, pre_read]; exact hg
theorem rread_A (W : Nat → Prop) (B gx N : Nat) (A : ByteArray) (R : Nat → List UInt8) (done : Bool) (c : Nat) (most : Int) (w : World) (h : MemA W B w gx N A R done) (hc : c < N) (hm : most ≤ 9223372036854775807) (hm0 : -9223372036854775808 ≤ most) :
 Calls Tryz.prog 48 #[.pointer (some ⟨gx, 0, none⟩), .int .i64 (c : Int), .int .i64 most] w (RrA W B w gx N A R done c most.toNat) := by
 obtain ⟨S, U, s, m, σ, vt, x, gc, fc, vf, v, z, hM, ha⟩ := h
 have hg : gotF N A = preR R z := by unfold gotF; rw [ha.got]
 refine (rread_of U B gx N _ gc fc vf v _ z c most w hM.core.so hc (by have := runF_text A; omega) hm hm0).mono ?_
 rintro e w' ⟨he, fc', v', hs, hk⟩
 have hn := next_of hg c most.toNat
 have hs2 : So (SN U w.heap.size) B w' gx 10 88 14 (upd1 (rdCell s σ.pos vt x) 10 vf) gc N fc' vf v' (runF A).text.length { z with ch := fun d => if d = c then (z.ch c).drop most.toNat else z.ch d } := by rw [hM.core.so.samef]; exact hs
 obtain ⟨hM2, hk2⟩ := take_mem hM hs2 hk
 exact ⟨by rw [he, hn], hk2, ⟨_, _, s, m, σ, vt, _, gc, fc', vf, v', _, hM2, ⟨by rw [← hn, pre_read]; exact ha.got, ha.is⟩⟩⟩
/- The program's reader of frames, living or dead. -/
/-- A reader that had all of A; R was read. -/
def MemR (W : Nat → Prop) (B : Nat) (w : World) (gx N : Nat) (A : ByteArray) (R : Nat → List UInt8) : Prop :=
 (ansF N A = 0 ∧ MemA W B w gx N A R (decide ((runF A).why = 0))) ∨ (ansF N A ≠ 0 ∧ MemD W B w gx N A R)
section
variable {W W' : Nat → Prop} {B : Nat} {w w' : World} {gx N : Nat} {A : ByteArray} {R : Nat → List UInt8}
theorem Core.wide {U : Nat → Prop} {f : Nat → Value} {gc : Nat} {fc : Nat → Value} {vf : Value} {v : Nat → Value} {t : Nat} {z : Sp} {dead done : Bool} (h : Core W U B w gx N f gc fc vf v t z dead done) (hW : ∀ b, W b → W' b) (hl : ∀ b, W' b → b < w.heap.size) : Core W' U B w gx N f gc fc vf v t z dead done :=
 ⟨h.so, h.dd, h.dn, hW _ h.gW, fun b q => hW b (h.uW b q), hl⟩
theorem MemR.frame (h : MemR W B w gx N A R) (hz : w.heap.size ≤ w'.heap.size) (hW : ∀ b, W b → w'.heap[b]? = w.heap[b]?) : MemR W B w' gx N A R := by
 rcases h with ⟨q, h⟩ | ⟨q, h⟩
 · exact Or.inl ⟨q, h.frame hz hW⟩
 · exact Or.inr ⟨q, h.frame hz hW⟩
theorem MemR.live (h : MemR W B w gx N A R) : ∀ b, W b → b < w.heap.size := by
 rcases h with ⟨_, S, U, s, m, σ, vt, x, gc, fc, vf, v, z, h, _⟩ | ⟨_, U, f, gc, fc, vf, v, t, z, h, _⟩
 · exact h.core.live
 · exact h.live
theorem MemR.wide (h : MemR W B w gx N A R) (hW : ∀ b, W b → W' b) (hl : ∀ b, W' b → b < w.heap.size) : MemR W' B w gx N A R := by
 rcases h with ⟨q, S, U, s, m, σ, vt, x, gc, fc, vf, v, z, h, ha⟩ | ⟨q, U, f, gc, fc, vf, v, t, z, h, ha⟩
 · exact Or.inl ⟨q, S, U, s, m, σ, vt, x, gc, fc, vf, v, z, ⟨h.core.wide hW hl, h.rd, h.ty, h.nn, h.sep, fun b k => hW b (h.sW b k), fun b k => hW b (h.vW b k)⟩, ha⟩
 · exact Or.inr ⟨q, U, f, gc, fc, vf, v, t, z, h.wide hW hl, ha⟩
theorem MemR.below (h : MemR W B w gx N A R) (hb : Below w.heap.size w w') : MemR W B w' gx N A R :=
 h.frame hb.size (fun b q => hb.block b (h.live b q))
end
theorem ansF_empty (N : Nat) : ansF N .empty = 0 := by
 unfold ansF
 rw [runF_empty.1, runF_empty.2]
 rfl
/-- It is made. -/
theorem memR_new {W : Nat → Prop} {B : Nat} {w : World} {gx N : Nat} (h : MemA W B w gx N .empty (fun _ => []) false) : MemR W B w gx N .empty (fun _ => []) :=
 Or.inl ⟨ansF_empty N, by rw [runF_empty.1]; exact h⟩
def MfP (W : Nat → Prop) (B : Nat) (w : World) (gx N : Nat) (A : ByteArray) (R : Nat → List UInt8) (e : Ending) (w' : World) : Prop :=
 e = .returned (.int .i64 (ansF N A : Nat)) ∧ Kw w w' W ∧ MemR (WN W w.heap.size w'.heap.size) B w' gx N A R
theorem mfeed_any (W : Nat → Prop) (B gx N : Nat) (A T : ByteArray) (R : Nat → List UInt8) (w : World) (h : MemR W B w gx N A R) (h0 : ansF N A = 0) (hB : B ≤ w.heap.size) (hA : A.size + T.size ≤ 140737488400000) (hgo : 1 < B) (hord : OrdIn w 1) :
 Calls Tryz.prog 53 #[.pointer (some ⟨gx, 0, none⟩), .string T] w (MfP W B w gx N (A ++ T) R) := by
 rcases h with ⟨_, h⟩ | ⟨q, _⟩
 ·
  refine (rfeed_A W B gx N A T R _ w h hB hA hgo hord).mono ?_
  rintro e w' ⟨he, hk, ha, hd⟩
  refine ⟨he, hk, ?_⟩
  by_cases q : ansF N (A ++ T) = 0
  · exact Or.inl ⟨q, ha q⟩
  · exact Or.inr ⟨q, hd q⟩
 · exact absurd h0 q
theorem mfeed_dead (W : Nat → Prop) (B gx N : Nat) (A T : ByteArray) (R : Nat → List UInt8) (w : World) (h : MemR W B w gx N A R) (h0 : ansF N A ≠ 0) :
 Calls Tryz.prog 53 #[.pointer (some ⟨gx, 0, none⟩), .string T] w fun e w' => e = .returned (.int .i64 7) ∧ w' = w := by
 rcases h with ⟨q, _⟩ | ⟨_, h⟩
 · exact absurd q h0
 · exact rfeed_D W B gx N A T R w h
theorem mdone_any (W : Nat → Prop) (B gx N : Nat) (A : ByteArray) (R : Nat → List UInt8) (w : World) (h : MemR W B w gx N A R) :
 Calls Tryz.prog 10 #[.pointer (some ⟨gx, 0, none⟩)] w fun e w' => e = .returned (.bool (decide (ansF N A = 0 ∧ (runF A).why = 0))) ∧ w' = w := by
 rcases h with ⟨q, h⟩ | ⟨q, h⟩
 ·
  refine (rdone_A W B gx N A R _ w h).mono ?_
  rintro e w' ⟨rfl, rfl⟩
  simp [q]
 ·
  refine (rdone_D W B gx N A R w h).mono ?_
  rintro e w' ⟨rfl, rfl⟩
  simp [q]
def MrP (W : Nat → Prop) (B : Nat) (w : World) (gx N : Nat) (A : ByteArray) (R : Nat → List UInt8) (c m : Nat) (e : Ending) (w' : World) : Prop :=
 e = .returned (.tuple #[.string ⟨(nextF N A R c m).toArray⟩, .int .i64 0]) ∧ Kw w w' W ∧ MemR (WN W w.heap.size w'.heap.size) B w' gx N A (readR R c (nextF N A R c m))
theorem mread_any (W : Nat → Prop) (B gx N : Nat) (A : ByteArray) (R : Nat → List UInt8) (c : Nat) (most : Int) (w : World) (h : MemR W B w gx N A R) (hc : c < N) (hm : most ≤ 9223372036854775807) (hm0 : -9223372036854775808 ≤ most) :
 Calls Tryz.prog 48 #[.pointer (some ⟨gx, 0, none⟩), .int .i64 (c : Int), .int .i64 most] w (MrP W B w gx N A R c most.toNat) := by
 rcases h with ⟨q, h⟩ | ⟨q, h⟩
 ·
  refine (rread_A W B gx N A R _ c most w h hc hm hm0).mono ?_
  rintro e w' ⟨he, hk, hr⟩
  exact ⟨he, hk, Or.inl ⟨q, hr⟩⟩
 ·
  refine (rread_D W B gx N A R c most w h hc hm hm0).mono ?_
  rintro e w' ⟨he, hk, hr⟩
  exact ⟨he, hk, Or.inr ⟨q, hr⟩⟩
end Go.Proofs.YtecddphahiadlaaGreatDoor
