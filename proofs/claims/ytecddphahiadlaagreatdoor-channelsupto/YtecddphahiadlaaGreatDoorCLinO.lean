import Derived.Test.YtecddphahiadlaaGreatDoorCWtrC
import Derived.Test.YtecddphahiadlaaGreatDoorCDefP
import Derived.Deep.RegionWith
import Derived.BigRegion
import Derived.Test.YtecddphahiadlaaGreatDoorCRdrY
import Derived.Test.YtecddphahiadlaaGreatDoorCTexts
import Derived.Test.YtecddphahiadlaaGreatDoorCWtrW
import Derived.Deep.LoopGhost
import Derived.Test.YtecddphahiadlaaGreatDoorCGFeed
/- The program's writer of frames: Flush. -/
namespace Go.Proofs.YtecddphahiadlaaGreatDoor
open Go.RowKit
theorem MemW.live {W : Nat → Prop} {B : Nat} {w : World} {gx N : Nat} {Q : Nat → List UInt8} {tk wd : Nat} {L : List UInt8} {n : Nat} {closed : Bool} (h : MemW W B w gx N Q tk wd L n closed) : ∀ b, W b → b < w.heap.size := by
 obtain ⟨f, gw, fq, vb, off, lr, M, h, hd⟩ := h
 exact h.live
theorem MemW.few {W : Nat → Prop} {B : Nat} {w : World} {gx N : Nat} {Q : Nat → List UInt8} {tk wd : Nat} {L : List UInt8} {n : Nat} {closed : Bool} (h : MemW W B w gx N Q tk wd L n closed) : N ≤ 8 ∧ W gx := by
 obtain ⟨f, gw, fq, vb, off, lr, M, h, hd⟩ := h
 exact ⟨h.few, h.inW.1⟩
/-- In more blocks. -/
theorem MemW.wide {W W' : Nat → Prop} {B : Nat} {w : World} {gx N : Nat} {Q : Nat → List UInt8} {tk wd : Nat} {L : List UInt8} {n : Nat} {closed : Bool} (h : MemW W B w gx N Q tk wd L n closed) (hW : ∀ b, W b → W' b) (hl : ∀ b, W' b → b < w.heap.size) : MemW W' B w gx N Q tk wd L n closed := by
 obtain ⟨f, gw, fq, vb, off, lr, M, h, hd⟩ := h
 exact ⟨f, gw, fq, vb, off, lr, M, ⟨h.f0, h.f1, h.f2, h.f6, h.few, h.buf, h.bnil, h.qrow, h.q, h.qne, h.apart, h.gne, h.vbw, ⟨hW _ h.inW.1, hW _ h.inW.2.1, fun g e => hW g (h.inW.2.2.1 g e), fun c hc g e => hW g (h.inW.2.2.2 c hc g e)⟩, hl⟩, hd⟩
/-- What lies elsewhere is made. -/
theorem MemW.below {W : Nat → Prop} {B : Nat} {w w' : World} {gx N : Nat} {Q : Nat → List UInt8} {tk wd : Nat} {L : List UInt8} {n : Nat} {closed : Bool} (h : MemW W B w gx N Q tk wd L n closed) (hb : Below w.heap.size w w') : MemW W B w' gx N Q tk wd L n closed :=
 h.frame hb.size (fun b q => hb.block b (h.live b q))
/-- Bytes more on the wire. -/
theorem MemW.wired {W : Nat → Prop} {B : Nat} {w w' : World} {gx N : Nat} {f : Nat → Value} {gw : Nat} {fq : Nat → Value} {Q : Nat → List UInt8} {tk wd : Nat} {vb : Value} {off : Nat} {lr : Int} {M : List UInt8} {closed : Bool} {L x : List UInt8} {n : Nat} {e : Ending}
 (h : Wt W B w gx N f gw fq Q tk wd vb off lr M closed) (hd : M.drop off = L) (hml : M.length ≤ n) (hp : WrP B w gx 3 95 7 f vb M off x e w') :
 e = .returned (.tuple #[.int .i64 (x.length : Nat), .nilIface]) ∧ Kw w w' W ∧ MemW (WN W w.heap.size w'.heap.size) B w' gx N Q tk wd (L ++ x) (n + x.length) closed := by
 obtain ⟨v', off', lr', M', he, hb, hdr, hle, hne⟩ := hp
 obtain ⟨h5, k5⟩ := h.setWire hb (fun q => absurd q hne)
 exact ⟨he, k5, ⟨_, _, _, _, _, _, _, h5, by rw [hdr, hd], by omega⟩⟩
/-- What Flush leaves. -/
def FluP (W : Nat → Prop) (B : Nat) (w : World) (gx N : Nat) (Q : Nat → List UInt8) (tk : Nat) (L : List UInt8) (n : Nat) (e : Ending) (w' : World) : Prop :=
 ∃ T S : ByteArray, e = .returned (.int .i64 0) ∧ CutsE N T.data.toList Q ∧ T.size ≤ 3 * sumL N Q ∧ PieceOk T S ∧ Kw w w' W ∧ MemW (WN W w.heap.size w'.heap.size) B w' gx N (fun _ => []) tk 0 (L ++ S.data.toList) (n + S.size) false
set_option maxRecDepth 4000 in
set_option maxHeartbeats 400000 in
theorem flush_closed (W : Nat → Prop) (B gx N : Nat) (Q : Nat → List UInt8) (tk wd : Nat) (L : List UInt8) (n : Nat) (w : World) (h : MemW W B w gx N Q tk wd L n true) :
 Calls Tryz.prog 14 #[.pointer (some ⟨gx, 0, none⟩)] w fun e w' => e = .returned (.int .i64 5) ∧ w' = w := by
 obtain ⟨f, gw, fq, vb, off, lr, M, h, hd, hml⟩ := h
 have c6 := h.buf.row.cell (i := 6) (by omega)
 rw [h.f6] at c6
 clear h hd hml
 go_enter Tryz.func14, Tryz.ntmps14
 go_wp2
 go_ret
 exact ⟨rfl, rfl⟩
/-- The same memory. -/
theorem MemW.same {W : Nat → Prop} {B : Nat} {w w' : World} {gx N : Nat} {Q : Nat → List UInt8} {tk wd : Nat} {L : List UInt8} {n : Nat} {closed : Bool} (h : MemW W B w gx N Q tk wd L n closed) (hh : w'.heap = w.heap) : MemW W B w' gx N Q tk wd L n closed :=
 h.frame (by rw [hh]; exact Nat.le_refl _) (fun b _ => by rw [hh])
theorem Kw.same {w wz w' : World} {W : Nat → Prop} (h : Kw wz w' W) (hh : wz.heap = w.heap) (ho : wz.os = w.os) (ht : wz.tape = w.tape) (hp : wz.output = w.output) : Kw w w' W :=
 ⟨h.os.trans ho, h.tape.trans ht, h.output.trans hp, by rw [← hh]; exact h.size, fun b hb hw => by rw [← hh] at hb ⊢; exact h.block b hb hw⟩
/-- What lies behind cut and Part, ahead of the wire. -/
theorem flush_mid {W : Nat → Prop} {B : Nat} {w w1 w1' w2 w3 : World} {gx N : Nat} {tk : Nat} {L : List UInt8} {n : Nat} {S : ByteArray} (k1 : Kw w w1 W) (h2 : MemW (WN W w.heap.size w1.heap.size) B w1 gx N (fun _ => []) tk 0 L n false)
 (hh : w1'.heap = w1.heap) (ho : w1'.os = w1.os) (ht : w1'.tape = w1.tape) (hp : w1'.output = w1.output) (hb : Below w1'.heap.size w1' w2) (hh3 : w3.heap = w2.heap) (ho3 : w3.os = w2.os) (ht3 : w3.tape = w2.tape) (hp3 : w3.output = w2.output)
 (hB : B ≤ w.heap.size) (hS1 : 1 ≤ S.size) (hn : n + S.size ≤ 17592186044416) :
 Calls Tryz.prog 31 #[.pointer (some ⟨gx, 3, none⟩), .string S] w3 fun e w' => e = .returned (.tuple #[.int .i64 (S.size : Nat), .nilIface]) ∧ Kw w w' W ∧ MemW (WN W w.heap.size w'.heap.size) B w' gx N (fun _ => []) tk 0 (L ++ S.data.toList) (n + S.size) false := by
 have k2 : Kw w1 w2 (WN W w.heap.size w1.heap.size) := (Kw.below hb).same hh ho ht hp
 have h3 : MemW (WN W w.heap.size w1.heap.size) B w3 gx N (fun _ => []) tk 0 L n false := ((h2.same hh).below hb).same hh3
 have hs1 := k1.size
 have hs2 := k2.size
 obtain ⟨f, gw, fq, vb, off, lr, M, h3, hd, hml⟩ := h3
 have e3 : w3.heap.size = w2.heap.size := by rw [hh3]
 refine (writeString_any B gx 3 95 7 f vb off lr M S w3 h3.buf h3.bnil (by omega) hS1 (by omega)).mono ?_
 intro e w' hpz
 obtain ⟨he, k3, h4⟩ := MemW.wired h3 hd hml hpz
 have k3' : Kw w2 w' (WN W w.heap.size w1.heap.size) := k3.same hh3 ho3 ht3 hp3
 have hs3 := k3'.size
 rw [← size_list] at he h4
 have kb : Kw w w2 W := k1.trans ⟨k2.os, k2.tape, k2.output, k2.size, fun b hb2 _ => by
  have := hb.block b (by rw [hh]; exact hb2)
  rw [hh] at this
  exact this⟩ (fun _ _ q => q)
 refine ⟨he, kb.trans k3' (fun b hb q => ?_), h4.wide (fun b q => ?_) (fun b q => ?_)⟩
 ·
  rcases q with q | q
  · exact q
  · omega
 ·
  rcases q with (q | q) | q
  · exact Or.inl q
  · exact Or.inr (by omega)
  · exact Or.inr (by omega)
 ·
  rcases q with q | q
  · exact h4.live b (Or.inl (Or.inl q))
  · exact q.2
set_option maxRecDepth 4000 in
set_option maxHeartbeats 1000000 in
theorem flush_open (W : Nat → Prop) (B gx N : Nat) (Q : Nat → List UInt8) (tk wd : Nat) (L : List UInt8) (n : Nat) (w : World) (h : MemW W B w gx N Q tk wd L n false) (h1 : 1 ≤ N) (hq : sumL N Q ≤ 1600) (hB : B ≤ w.heap.size) (hn : n ≤ 10000000000000) :
 Calls Tryz.prog 14 #[.pointer (some ⟨gx, 0, none⟩)] w (FluP W B w gx N Q tk L n) := by
 have HC : Hid (∀ wz : World, wz.heap = w.heap → wz.os = w.os → wz.tape = w.tape → wz.output = w.output → Calls Tryz.prog 33 #[.pointer (some ⟨gx, 0, none⟩)] wz fun e w1 => ∃ T : ByteArray, e = .returned (.string T) ∧ CutsE N T.data.toList Q ∧ T.size ≤ 3 * sumL N Q ∧ Kw w w1 W ∧ MemW (WN W w.heap.size w1.heap.size) B w1 gx N (fun _ => []) tk 0 L n false) := fun wz hh ho ht hp => by
  refine (wcut_any W B gx N Q tk wd L n false wz (h.same hh) h1 hq (by rw [hh]; exact hB)).mono ?_
  rintro e w1 ⟨T, he, hcu, hsz, hk, hm⟩
  exact ⟨T, he, hcu, hsz, hk.same hh ho ht hp, by rw [← hh]; exact hm⟩
 have c6 : w.cell? ⟨gx, 6, none⟩ = some (.bool false) := by
  obtain ⟨f, gw, fq, vb, off, lr, M, h, hd, hml⟩ := h
  rw [h.buf.row.cell (i := 6) (by omega), h.f6]
 generalize hP : FluP W B w gx N Q tk L n = P
 have HP : Hid (FluP W B w gx N Q tk L n = P) := hP
 clear h hP
 go_enter Tryz.func14, Tryz.ntmps14
 go_wp2_with fail
 go_region_with (first
  | (go_at_call 33; refine Calls.mono (HC.out _ (by rfl) (by rfl) (by rfl) (by rfl)) ?_; rintro e w1 ⟨T, rfl, hcu, hsz, k1, h2⟩)
  | (go_at_call 34; refine (part_any T _ (by omega)).mono ?_; rintro e w2 ⟨S, hS, rfl, hb⟩)
  | (go_at_call 31; refine Calls.mono (flush_mid k1 h2 (by rfl) (by rfl) (by rfl) (by rfl) hb (by rfl) (by rfl) (by rfl) (by rfl) hB hS.one (by have := hS.len; omega)) ?_; rintro e w3 ⟨rfl, k3, h3⟩))
 all_goals
  have P0 : P (.returned (.int .i64 0)) w3 := by rw [← HP.out]; exact ⟨T, S, rfl, hcu, hsz, hS, k3, h3⟩
  clear hcu hsz hS k1 h2 hb k3 h3 HC HP
  go_wp2
  exact P0
/- What a reader reads of a writer's bytes: plain reckoning. -/
theorem hasAt_app {X : ByteArray} {A S : ByteArray} (h : HasAt X 0 (A ++ S).data.toList) : HasAt X 0 A.data.toList ∧ HasAt X A.size S.data.toList := by
 rw [list_app] at h
 have h2 := h.rightOf
 rw [Nat.zero_add, ← size_list] at h2
 exact ⟨h.leftOf, h2⟩
theorem hasAt_all (A : ByteArray) : HasAt A 0 A.data.toList := HasAt.self A.data.toList
/-- Where the bytes end, at a whole byte, more is wanted. -/
theorem goes_end (A : ByteArray) (t : List UInt8) : Goes A M0 ⟨8 * A.size, t, 0, false⟩ 2 M0 ⟨8 * A.size, t, 0, false⟩ := by
 have e : (stepM M0 A ⟨8 * A.size, t, 0, false⟩).2.why = 2 := by
  rw [stepM_head rfl rfl]
  unfold headM
  rw [bitF_end rfl (Nat.le_refl _)]
  simp only
  have h1 := (gd_num 2).dead A (⟨8 * A.size, t, 2, false⟩ : St) (by simp)
  simp only at h1
  have h2 := (gd_kindM 0 (numF A 2 (⟨8 * A.size, t, 2, false⟩ : St)).1).dead A (numF A 2 (⟨8 * A.size, t, 2, false⟩ : St)).2 (by rw [h1.1]; simp)
  rw [h2.1, h1.1]
 have k := Goes.stop (s := A) (m := M0) (σ := ⟨8 * A.size, t, 0, false⟩) M0_over (by rw [e]; simp)
 rw [e] at k
 exact k
theorem sumL_upd (Q : Nat → List UInt8) (c : Nat) (l : List UInt8) : ∀ N, sumL N (fun d => if d = c then Q c ++ l else Q d) = sumL N Q + if c < N then l.length else 0
 | 0 => by simp [sumL]
 |
  N + 1 => by
  simp only [sumL]
  rw [sumL_upd Q c l N]
  by_cases e : N = c
  ·
   subst e
   rw [if_pos rfl, if_neg (by omega), if_pos (by omega), List.length_append]
   omega
  ·
   rw [if_neg e]
   by_cases q : c < N
   · rw [if_pos q, if_pos (by omega)]; omega
   · rw [if_neg q, if_neg (by omega)]; omega
theorem sumL_nil : ∀ N, sumL N (fun _ => []) = 0
 | 0 => rfl
 | N + 1 => by simp [sumL, sumL_nil N]
/-- Text that is there by some bytes is there by more. -/
theorem run_text {A X : ByteArray} (h : Pfx A X) : (runF A).text <+: (runF X).text := by
 rcases run_mono h with e | e
 · rw [e]; exact List.prefix_refl _
 · exact e.2
/- A line of the statements: a writer, a reader, and what was seen of them. -/
/-- What a line knows. -/
structure Lk where
 taken : Nat → ByteArray
 read : Nat → ByteArray
 total : Nat
 waiting : Nat → Nat
 wire : ByteArray
section
variable {Ww Wr V : Nat → Prop} {B : Nat} {w w' : World} {gl gw gr N : Nat} {k k' : Lk} {Q Q' : Nat → List UInt8} {tk wd tk' wd' : Nat} {L L' : List UInt8} {n n' : Nat} {closed closed' : Bool} {A A' : ByteArray} {R R' : Nat → List UInt8}
end
theorem Kw.mono {w w' : World} {W W' : Nat → Prop} (h : Kw w w' W) (hW : ∀ b, W b → W' b) : Kw w w' W' := ⟨h.os, h.tape, h.output, h.size, fun b hb q => h.block b hb (fun e => q (hW b e))⟩
theorem Kw.drew {w w' : World} {W : Nat → Prop} (h : Kw w w' W) : Kw w w'.drew W := ⟨h.os, h.tape, h.output, h.size, h.block⟩
theorem Kw.set {w w' : World} {W : Nat → Prop} (h : Kw w w' W) {b i : Nat} (v : Value) (hb : W b) : Kw w (w'.setCell ⟨b, i, none⟩ v) W :=
 ⟨by rw [← h.os]; rfl, by rw [← h.tape]; rfl, by rw [← h.output]; rfl, by have := h.size; simpa [World.setCell] using this, fun c hc q => by
  have hne : c ≠ b := fun e => q (by rw [e]; exact hb)
  exact (Below.heap_setCell w' ⟨b, i, none⟩ v c hne).trans (h.block c hc q)⟩
/- What a line of the statements knows, set anew. -/
section
variable {Ww Wr : Nat → Prop} {B : Nat} {w : World} {gl gw gr N : Nat} {k : Lk} {Q : Nat → List UInt8} {tk wd : Nat} {L : List UInt8} {n : Nat} {closed : Bool} {A : ByteArray} {R : Nat → List UInt8}
end
/- A line of the statements is made. -/
/- A line of the statements: writes. -/
def Lk.wrote (k : Lk) (c : Nat) (S : ByteArray) (m : Nat) : Lk :=
 ⟨fun d => if d = c then k.taken c ++ S.extract 0 m else k.taken d, k.read, k.total + m, fun d => if d = c then k.waiting c + m else k.waiting d, k.wire⟩
/- Frames of a text, by the document, plainly. -/
section
variable (N : Nat) (ch : Nat → List UInt8)
theorem frm_nil : takeS N ⟨[], ch⟩ [] = (true, ⟨[], ch⟩) := rfl
theorem frm_bad (a : UInt8) (r : List UInt8) (h : N ≤ a.toNat) : (takeS N ⟨[], ch⟩ (a :: r)).1 = false ∧ (takeS N ⟨[], ch⟩ (a :: r)).2.ch = ch := by
 have e : putS N ⟨[], ch⟩ a = (false, ⟨[a], ch⟩) := by
  simp [putS, show ¬ a.toNat < N by omega]
 simp [takeS, e]
theorem frm_one (a : UInt8) (h : a.toNat < N) : takeS N ⟨[], ch⟩ [a] = (true, ⟨[a], ch⟩) := by
 have e : putS N ⟨[], ch⟩ a = (true, ⟨[a], ch⟩) := by
  simp [putS, h]
 rw [takeS_cons e]
 rfl
theorem frm_len (a b : UInt8) (r : List UInt8) (h : a.toNat < N) (hb : b.toNat = 0 ∨ 20 < b.toNat) : (takeS N ⟨[], ch⟩ (a :: b :: r)).1 = false ∧ (takeS N ⟨[], ch⟩ (a :: b :: r)).2.ch = ch := by
 have e : putS N ⟨[], ch⟩ a = (true, ⟨[a], ch⟩) := by
  simp [putS, h]
 have e2 : putS N ⟨[a], ch⟩ b = (false, ⟨[a, b], ch⟩) := by
  simp [putS]
  omega
 rw [takeS_cons e]
 simp [takeS, e2]
theorem frm_part (a b : UInt8) : ∀ (l r : List UInt8), r.length + l.length < b.toNat → takeS N ⟨a :: b :: r, ch⟩ l = (true, ⟨a :: b :: (r ++ l), ch⟩)
 | [], r, _ => by simp [takeS]
 |
  c :: l, r, h => by
  have hp : putS N ⟨a :: b :: r, ch⟩ c = (true, ⟨a :: b :: (r ++ [c]), ch⟩) := by
   unfold putS
   simp only [List.length_cons] at h
   rw [if_neg (by simp), if_neg (by simp), if_neg (by simp [List.getD]; omega)]
   rfl
  rw [takeS_cons hp, frm_part a b l (r ++ [c]) (by simp at h ⊢; omega)]
  simp
theorem frm_head (a b : UInt8) (r : List UInt8) (h : a.toNat < N) (h1 : 1 ≤ b.toNat) (h20 : b.toNat ≤ 20) : takeS N ⟨[], ch⟩ (a :: b :: r) = takeS N ⟨[a, b], ch⟩ r := by
 have e : putS N ⟨[], ch⟩ a = (true, ⟨[a], ch⟩) := by
  simp [putS, h]
 have e2 : putS N ⟨[a], ch⟩ b = (true, ⟨[a, b], ch⟩) := by
  simp [putS, h1, h20]
 rw [takeS_cons e, takeS_cons e2]
theorem frm_short (a b : UInt8) (r : List UInt8) (h : a.toNat < N) (h1 : 1 ≤ b.toNat) (h20 : b.toNat ≤ 20) (hr : r.length < b.toNat) : takeS N ⟨[], ch⟩ (a :: b :: r) = (true, ⟨a :: b :: r, ch⟩) := by
 rw [frm_head N ch a b r h h1 h20, frm_part N ch a b r [] (by simpa using hr)]
 rfl
theorem frm_whole (a b : UInt8) (r : List UInt8) (h : a.toNat < N) (h1 : 1 ≤ b.toNat) (h20 : b.toNat ≤ 20) (hr : b.toNat ≤ r.length) : takeS N ⟨[], ch⟩ (a :: b :: r) = takeS N ⟨[], fun k => if k = a.toNat then ch k ++ r.take b.toNat else ch k⟩ (r.drop b.toNat) := by
 rw [frm_head N ch a b r h h1 h20]
 have e := take_body N a b ch (r.take b.toNat) [] (by rw [List.length_take]; omega) (by simp; omega)
 have e2 : r = r.take b.toNat ++ r.drop b.toNat := (List.take_append_drop _ _).symm
 conv => lhs; rw [e2]
 rw [takeS_app, e]
 simp
end
/- Frames of a text, by the document. -/
theorem make_strs (N : Nat) (hN : N ≤ 8) (W : World) : (Instr.makeSlice 56 (.int .i64 (N : Int)) (.int .i64 (N : Int))).run Tryz.prog W = .ok (.slice (some ⟨W.heap.size, 0, none⟩) N N) (W.alloc (.cells (madeCells #[.string .empty] N) 9)) := by
 obtain ⟨i0, hi0, hz0, hs0, hby⟩ : ∃ i0, Tryz.prog.info? 9 = some i0 ∧ i0.zero = some (.string .empty) ∧ i0.size = 1 ∧ i0.bytes = 16 := info_parts (by kernel_rfl : (Tryz.prog.info? 9).map (fun i => (i.zero, i.size, i.bytes)) = some (some (.string .empty), 1, 16))
 have h := run_make (P := Tryz.prog) W 56 9 i0 (.string .empty) Tryz.underlying56 hi0 hz0 .i64 .i64 (N : Int) (N : Int) (by omega) (by omega) (by rw [hby]; omega) (by omega)
 have e : (((N : Int)).toNat * i0.size) = N := by rw [hs0]; omega
 rw [e] at h
 simpa [Value.cells] using h
/-- A text of so many bytes. -/
def txt (l : List UInt8) : ByteArray := ⟨l.toArray⟩
theorem txt_list (l : List UInt8) : (txt l).data.toList = l := rfl
theorem txt_size (l : List UInt8) : (txt l).size = l.length := by rw [size_list, txt_list]
theorem txt_app (a b : List UInt8) : txt a ++ txt b = txt (a ++ b) := bytes_ext (by rw [list_app]; rfl)
theorem txt_of (s : ByteArray) : txt s.data.toList = s := rfl
/-- What Frames has gathered, t being left. -/
structure FrI (w wr : World) (N : Nat) (T : List UInt8) (gO : Nat) (ch : Nat → List UInt8) (t : List UInt8) : Prop where
 row : wr.rowIs gO 9 N (fun c => .string (txt (ch c)))
 same : takeS N z0 T = takeS N ⟨[], ch⟩ t
 below : Below w.heap.size w wr
 new : w.heap.size ≤ gO
 few : ∀ c, (ch c).length + t.length ≤ T.length
/-- What Frames answers. -/
def FrP (w : World) (N : Nat) (T : List UInt8) (e : Ending) (w' : World) : Prop :=
 ∃ gO, e = .returned (.tuple #[.slice (some ⟨gO, 0, none⟩) N N, .bool (!(takeS N z0 T).1), .bool ((takeS N z0 T).1 && decide (0 < (takeS N z0 T).2.fr.length))]) ∧ w'.rowIs gO 9 N (fun c => .string (txt ((takeS N z0 T).2.ch c))) ∧ Below w.heap.size w w' ∧ w.heap.size ≤ gO
theorem FrI.end {w wr : World} {N : Nat} {T : List UInt8} {gO : Nat} {ch : Nat → List UInt8} {t : List UInt8} (h : FrI w wr N T gO ch t) {b c : Bool} (h1 : (takeS N ⟨[], ch⟩ t).1 = !b) (h2 : (takeS N ⟨[], ch⟩ t).2.ch = ch) (h3 : b = false → (decide (0 < (takeS N ⟨[], ch⟩ t).2.fr.length)) = c) (h4 : b = true → c = false) :
 FrP w N T (.returned (.tuple #[.slice (some ⟨gO, 0, none⟩) N N, .bool b, .bool c])) wr := by
 refine ⟨gO, ?_, ?_, h.below, h.new⟩
 ·
  rw [h.same, h1]
  cases b with
  | false => rw [← h3 rfl]; rfl
  | true => rw [h4 rfl]; rfl
 · rw [h.same, h2]; exact h.row
/-- A frame more. -/
theorem FrI.more {w wr : World} {N : Nat} {T : List UInt8} {gO : Nat} {ch : Nat → List UInt8} {a b : UInt8} {r : List UInt8} (h : FrI w wr N T gO ch (a :: b :: r)) (ha : a.toNat < N) (h1 : 1 ≤ b.toNat) (h20 : b.toNat ≤ 20) (hr : b.toNat ≤ r.length) :
 FrI w (wr.setCell ⟨gO, a.toNat, none⟩ (.string (txt (ch a.toNat ++ r.take b.toNat)))).drew N T gO (fun k => if k = a.toNat then ch k ++ r.take b.toNat else ch k) (r.drop b.toNat) := by
 have hb : Below w.heap.size w (wr.setCell ⟨gO, a.toNat, none⟩ (.string (txt (ch a.toNat ++ r.take b.toNat)))) := by
  refine ⟨h.below.os, h.below.tape, h.below.output, by simp [World.setCell]; exact h.below.size, fun c hc => ?_⟩
  rw [Below.heap_setCell _ _ _ _ (fun e => by have : c = gO := e; have := h.new; omega)]
  exact h.below.block c hc
 refine ⟨((h.row.set a.toNat (.string (txt (ch a.toNat ++ r.take b.toNat)))).congr (fun i _ => ?_)).of_block rfl, ?_, hb.drew, h.new, fun c => ?_⟩
 ·
  by_cases e : i = a.toNat
  · rw [if_pos e, if_pos e, e]
  · rw [if_neg e, if_neg e]
 · rw [h.same, frm_whole N ch a b r ha h1 h20 hr]
 ·
  have q := h.few c
  simp only [List.length_cons] at q
  rw [List.length_drop]
  split
  · rw [List.length_append, List.length_take]; omega
  · omega
/-- Each of the ways on. -/
def FrC (w wr : World) (N : Nat) (T : List UInt8) (gO : Nat) (tb : ByteArray) : Prop :=
 (tb = .empty ∧ FrP w N T (.returned (.tuple #[.slice (some ⟨gO, 0, none⟩) N N, .bool false, .bool false])) wr) ∨
 (tb.toList.isEmpty = false ∧ tb.size ≤ 5000 ∧ ∃ av : Nat, av < 256 ∧ (∀ wq, (Instr.index 9 (.string tb) (.int .i64 0)).run Tryz.prog wq = .ok (.int .u8 (av : Int)) wq) ∧
  (
   (N ≤ av ∧ FrP w N T (.returned (.tuple #[.slice (some ⟨gO, 0, none⟩) N N, .bool true, .bool false])) wr) ∨
   (av < N ∧ tb.size = 1 ∧ FrP w N T (.returned (.tuple #[.slice (some ⟨gO, 0, none⟩) N N, .bool false, .bool true])) wr) ∨
   (av < N ∧ 2 ≤ tb.size ∧ ∃ bv : Nat, bv < 256 ∧ (∀ wq, (Instr.index 9 (.string tb) (.int .i64 1)).run Tryz.prog wq = .ok (.int .u8 (bv : Int)) wq) ∧
    (
     ((bv = 0 ∨ 20 < bv) ∧ FrP w N T (.returned (.tuple #[.slice (some ⟨gO, 0, none⟩) N N, .bool true, .bool false])) wr) ∨
     (1 ≤ bv ∧ bv ≤ 20 ∧ tb.size < 2 + bv ∧ FrP w N T (.returned (.tuple #[.slice (some ⟨gO, 0, none⟩) N N, .bool false, .bool true])) wr) ∨
     (1 ≤ bv ∧ bv ≤ 20 ∧ 2 + bv ≤ tb.size ∧ ∃ s : ByteArray, wr.cell? ⟨gO, av, none⟩ = some (.string s) ∧ wr.frozen? ⟨gO, av, none⟩ = false ∧ s.size ≤ 5000 ∧
      ∃ t ch, tb.extract (2 + bv) tb.size = txt t ∧ t.length + 2 ≤ tb.size ∧ FrI w (wr.setCell ⟨gO, av, none⟩ (.string (s ++ tb.extract 2 (2 + bv)))).drew N T gO ch t)))))
theorem txt_ext (l : List UInt8) (i j : Nat) : (txt l).extract i j = txt ((l.drop i).take (j - i)) := bytes_ext (by
 rw [ByteArray.data_extract, Array.toList_extract, List.extract_eq_take_drop]
 rfl)
theorem FrI.cases {w wr : World} {N : Nat} {T : List UInt8} {gO : Nat} {ch : Nat → List UInt8} {t : List UInt8} (h : FrI w wr N T gO ch t) (hT : T.length ≤ 5000) : FrC w wr N T gO (txt t) := by
 have hf := h.few
 cases t with
 | nil => exact Or.inl ⟨rfl, h.end (by rw [frm_nil]; rfl) (by rw [frm_nil]) (fun _ => by rw [frm_nil]; rfl) (fun q => by simp at q)⟩
 |
  cons a r =>
  refine Or.inr ⟨by rw [ByteArray.toList_eq, txt_list]; rfl, by have := hf 0; rw [txt_size]; omega, a.toNat, a.toNat_lt, fun wq => index_run (txt (a :: r)) 0 0 rfl (by rw [txt_size]; simp) wq, ?_⟩
  by_cases ha : N ≤ a.toNat
  · exact Or.inl ⟨ha, h.end (frm_bad N ch a r ha).1 (frm_bad N ch a r ha).2 (fun q => by simp at q) (fun _ => rfl)⟩
  ·
   have haN : a.toNat < N := by omega
   cases r with
   | nil => exact Or.inr (Or.inl ⟨haN, rfl, h.end (by rw [frm_one N ch a haN]; rfl) (by rw [frm_one N ch a haN]) (fun _ => by rw [frm_one N ch a haN]; rfl) (fun q => by simp at q)⟩)
   |
    cons b r =>
    refine Or.inr (Or.inr ⟨haN, by rw [txt_size]; simp, b.toNat, b.toNat_lt, fun wq => index_run (txt (a :: b :: r)) 1 1 rfl (by rw [txt_size]; simp) wq, ?_⟩)
    by_cases hb : b.toNat = 0 ∨ 20 < b.toNat
    · exact Or.inl ⟨hb, h.end (frm_len N ch a b r haN hb).1 (frm_len N ch a b r haN hb).2 (fun q => by simp at q) (fun _ => rfl)⟩
    ·
     have hb1 : 1 ≤ b.toNat := by omega
     have hb20 : b.toNat ≤ 20 := by omega
     by_cases hsh : r.length < b.toNat
     · exact Or.inr (Or.inl ⟨hb1, hb20, by rw [txt_size]; simp; omega, h.end (by rw [frm_short N ch a b r haN hb1 hb20 hsh]; rfl) (by rw [frm_short N ch a b r haN hb1 hb20 hsh]) (fun _ => by rw [frm_short N ch a b r haN hb1 hb20 hsh]; simp) (fun q => by simp at q)⟩)
     ·
      refine Or.inr (Or.inr ⟨hb1, hb20, by rw [txt_size]; simp; omega, txt (ch a.toNat), h.row.cell haN, h.row.frozen _, by have := hf a.toNat; rw [txt_size]; omega, r.drop b.toNat, (fun k => if k = a.toNat then ch k ++ r.take b.toNat else ch k), ?_, ?_, ?_⟩)
      ·
       rw [txt_ext]
       congr 1
       rw [Nat.add_comm, show List.drop (b.toNat + 2) (a :: b :: r) = List.drop b.toNat r from rfl, List.take_of_length_le]
       rw [List.length_drop, txt_size]
       simp only [List.length_cons]
       omega
      · rw [txt_size, List.length_drop]; simp
      ·
       have e : txt (ch a.toNat) ++ (txt (a :: b :: r)).extract 2 (2 + b.toNat) = txt (ch a.toNat ++ r.take b.toNat) := by
        rw [txt_ext, txt_app, show 2 + b.toNat - 2 = b.toNat by omega]
        rfl
       rw [e]
       exact h.more haN hb1 hb20 (by omega)
set_option maxRecDepth 8000 in
set_option maxHeartbeats 400000 in
theorem frames_any (T : ByteArray) (N : Nat) (w : World) (hN : N ≤ 8) (hT : T.size ≤ 5000) :
 Calls Tryz.prog 68 #[.string T, .int .i64 (N : Int)] w (FrP w N T.data.toList) := by
 have hmk := make_strs N hN
 have hrow := fun W => World.rowIs_made W (.string .empty) N 9
 generalize madeCells #[.string .empty] N = Mz at hmk hrow
 have H0 : FrI w (w.alloc (.cells Mz 9)) N T.data.toList w.heap.size (fun _ => []) T.data.toList := ⟨hrow w, rfl, (Below.refl _ _).alloc (Nat.le_refl _) _, Nat.le_refl _, fun c => by simp⟩
 have HC : Hid (∀ wr ch t, FrI w wr N T.data.toList w.heap.size ch t → FrC w wr N T.data.toList w.heap.size (txt t)) := fun wr ch t h => h.cases (by rw [← size_list]; exact hT)
 obtain ⟨tl, htl⟩ : ∃ tl, tl = T.data.toList := ⟨_, rfl⟩
 rw [← htl] at H0 HC ⊢
 have hlen : tl.length = T.size := by rw [htl, ← size_list]
 have hTt : T = txt tl := by rw [htl]; rfl
 clear htl
 generalize hP : FrP w N tl = P
 have HP : Hid (FrP w N tl = P) := hP
 clear hP
 go_enter Tryz.func68, Tryz.ntmps68
 go_wp2_with fail
 go_loopg [0] T.size (fun fu v wr => ∃ t ch, v = .string (txt t) ∧ t.length ≤ fu ∧ FrI w wr N tl w.heap.size ch t)
 case atStart => exact ⟨tl, _, by rw [hTt], by omega, H0⟩
 case round =>
  clear H0 hTt hmk hrow
  obtain ⟨t, ch, rfl, hfu, hI⟩ := hrel
  have hts : t.length = (txt t).size := (txt_size t).symm
  have hC := HC.out _ _ _ hI
  clear HC hI
  unfold FrC at hC
  rw [HP.out] at hC
  generalize txt t = tb at hC hts ⊢
  rcases hC with ⟨rfl, P0⟩ | ⟨hne, hsz, av, hav, i0, hC⟩
  ·
   go_wp2
   go_ret3
   exact P0
  ·
   have hwa : wrap64 (av : Int) = (av : Int) := IntWalk.wrap64_in _ ⟨by omega, by omega⟩
   rcases hC with ⟨ha, P0⟩ | ⟨ha, hs1, P0⟩ | ⟨ha, hs2, bv, hbv, i1, hC⟩
   ·
    have haI : decide ((N : Int) ≤ (av : Int)) = true := by rw [decide_eq_true_iff]; omega
    have haN : decide (N ≤ av) = true := by rw [decide_eq_true_iff]; omega
    clear hts hfu
    go_wp2
    go_ret3
    exact P0
   ·
    have haN : decide (N ≤ av) = false := by rw [decide_eq_false_iff_not]; omega
    clear hts hfu
    go_wp2
    go_ret3
    exact P0
   ·
    have haN : decide (N ≤ av) = false := by rw [decide_eq_false_iff_not]; omega
    have hwb : wrap64 (bv : Int) = (bv : Int) := IntWalk.wrap64_in _ ⟨by omega, by omega⟩
    have hs1 : ((tb.size : Int) == 1) = false := by rw [beq_eq_false_iff_ne]; omega
    rcases hC with ⟨hb, P0⟩ | ⟨hb1, hb20, hb3, P0⟩ | ⟨hb1, hb20, hb3, s, c0, c0f, hss, t', ch', hx, hxl, hI'⟩
    ·
     clear hts hfu
     rcases hb with hb | hb
     ·
      have d1 : ((bv : Int) == 0) = true := by rw [beq_iff_eq]; omega
      go_wp2
      go_ret3
      exact P0
     ·
      have d1 : ((bv : Int) == 0) = false := by rw [beq_eq_false_iff_ne]; omega
      have d2 : decide ((20 : Int) < (bv : Int)) = true := by rw [decide_eq_true_iff]; omega
      go_wp2
      go_ret3
      exact P0
    ·
     have d1 : ((bv : Int) == 0) = false := by rw [beq_eq_false_iff_ne]; omega
     have d2 : decide ((20 : Int) < (bv : Int)) = false := by rw [decide_eq_false_iff_not]; omega
     have d3 : decide ((tb.size : Int) < 2 + (bv : Int)) = true := by rw [decide_eq_true_iff]; omega
     clear hts hfu
     go_wp2
     go_ret3
     exact P0
    ·
     have d1 : ((bv : Int) == 0) = false := by rw [beq_eq_false_iff_ne]; omega
     have d2 : decide ((20 : Int) < (bv : Int)) = false := by rw [decide_eq_false_iff_not]; omega
     have d3 : decide ((tb.size : Int) < 2 + (bv : Int)) = false := by rw [decide_eq_false_iff_not]; omega
     have avI : (av : Int) < (N : Int) := by omega
     have hb4 : 2 + (bv : Int) ≤ (tb.size : Int) := by omega
     have hss2 : s.size + bv ≤ 10000 := by omega
     go_wp2_with fail
     go_region
     go_wp2_with fail
     go_roundg t'.length
     case measure => omega
     case rel => exact ⟨t', ch', by rw [hx], Nat.le_refl _, hI'⟩
/- How long what a sorter holds is. -/
theorem putS_len (N : Nat) (z : Sp) (a : UInt8) (c : Nat) : ((putS N z a).2.ch c).length + (putS N z a).2.fr.length ≤ (z.ch c).length + z.fr.length + 1 := by
 unfold putS
 split
 · simp only [List.length_append, List.length_singleton]; omega
 ·
  split
  · simp only [List.length_append, List.length_singleton]; omega
  ·
   split
   ·
    simp only [List.length_nil]
    split
    · simp only [List.length_append, List.length_drop, List.length_singleton]; omega
    · omega
   · simp only [List.length_append, List.length_singleton]; omega
theorem takeS_len (N : Nat) : ∀ (l : List UInt8) (z : Sp) (c : Nat), ((takeS N z l).2.ch c).length ≤ (z.ch c).length + z.fr.length + l.length
 | [], z, c => by simp [takeS]
 |
  a :: l, z, c => by
  have h := putS_len N z a c
  by_cases q : (putS N z a).1 = true
  ·
   simp only [takeS, q, if_true]
   have := takeS_len N l (putS N z a).2 c
   simp only [List.length_cons]
   omega
  ·
   simp only [takeS, q, if_false, Bool.false_eq_true]
   simp only [List.length_cons]
   omega
/- The table of the order, later on. -/
theorem OrdIn.later {w w' : World} (h : OrdIn w 1) (hb : Below w.heap.size w w') (h0 : 1 < w.heap.size) : OrdIn w' 1 :=
 h.kp (Kp.below hb w.heap.size (.slice none 0 0)) (by omega) (by simp [Value.ownBlock])
/- The program's writer of frames: waits, Tick, Close. -/
theorem sumL_none : ∀ (N : Nat) (Q : Nat → List UInt8), (∀ c, c < N → Q c = []) → sumL N Q = 0
 | 0, _, _ => rfl
 |
  N + 1, Q, h => by
  simp only [sumL]
  rw [sumL_none N Q (fun c hc => h c (by omega)), h N (by omega)]
  rfl
theorem sumL_some : ∀ (N : Nat) (Q : Nat → List UInt8) (c : Nat), c < N → (Q c).length ≤ sumL N Q
 |
  N + 1, Q, c, hc => by
  simp only [sumL]
  by_cases e : c = N
  · subst e; omega
  · have := sumL_some N Q c (by omega); omega
set_option maxRecDepth 4000 in
set_option maxHeartbeats 400000 in
theorem waits_any (W : Nat → Prop) (B gx N : Nat) (Q : Nat → List UInt8) (tk wd : Nat) (L : List UInt8) (n : Nat) (closed : Bool) (w : World) (h : MemW W B w gx N Q tk wd L n closed) :
 Calls Tryz.prog 37 #[.pointer (some ⟨gx, 0, none⟩)] w fun e w' => e = .returned (.bool (decide (0 < sumL N Q))) ∧ w' = w := by
 obtain ⟨f, gw, fq, vb, off, lr, M, h, hd, hml⟩ := h
 have c0 := h.buf.row.cell (i := 0) (by omega)
 rw [h.f0] at c0
 have hN8 := h.few
 have HQ : Hid (∀ k, k < N → w.cell? ⟨gw, k, none⟩ = some (fq k) ∧ ∃ ao cap, fq k = .slice ao (Q k).length cap) := fun k hk => ⟨h.qrow.cell hk, by
  obtain ⟨_, q⟩ := h.q k hk
  rcases q with ⟨q, q0⟩ | ⟨g, cap, cur, q, _⟩
  · exact ⟨none, 0, by rw [q, q0]⟩
  · exact ⟨_, _, q⟩⟩
 clear h hd hml
 have HE : Hid (∀ k, k ≤ N → (∀ c, c < k → Q c = []) → (k = N → decide (0 < sumL N Q) = false) ∧ (k < N → Q k ≠ [] → decide (0 < sumL N Q) = true)) := fun k hk hz => ⟨fun e => by
  subst e
  rw [sumL_none k Q hz]
  rfl, fun hlt hne => by
  have := sumL_some N Q k hlt
  have h1 : 1 ≤ (Q k).length := List.length_pos_iff.2 hne
  rw [decide_eq_true_iff]
  omega⟩
 generalize decide (0 < sumL N Q) = ans at HE ⊢
 go_enter Tryz.func37, Tryz.ntmps37
 go_wp2_with fail
 go_loopw [10] (fun i wr => ∃ k : Nat, k ≤ N ∧ i = .int .i64 (k : Nat) ∧ wr = w ∧ ∀ c, c < k → Q c = []) (fun i _ => N - (intOf i).toNat)
 case atStart => exact ⟨0, Nat.zero_le _, rfl, rfl, fun c hc => by omega⟩
 case round =>
  obtain ⟨k, hk, rfl, rfl, hz⟩ := hrel
  by_cases hlt : k < N
  ·
   obtain ⟨cq, ao, cap, hv⟩ := HQ.out k hlt
   rw [hv] at cq
   have hkI : (k : Int) < (N : Int) := by omega
   by_cases hq : (Q k).length = 0
   ·
    have e0 : decide (0 < (Q k).length) = false := by rw [decide_eq_false_iff_not]; omega
    have hz' : ∀ c, c < k + 1 → Q c = [] := fun c hc => by
     by_cases e : c = k
     · subst e; exact List.eq_nil_of_length_eq_zero hq
     · exact hz c (by omega)
    rw [hq] at cq
    clear HE HQ hv
    go_wp2_with fail
    go_roundw
    case rel => exact ⟨k + 1, by omega, by go_num, by trivial, hz'⟩
    case measure => simp [intOf]; omega
   ·
    have HA : Hid (ans = true) := ((HE.out k hk hz).2 hlt (fun e => hq (by rw [e]; rfl)))
    generalize (Q k).length = q at cq hq
    have hqI : (0 : Int) < (q : Int) := by omega
    have hqN : 0 < q := by omega
    clear HE HQ hv
    go_wp2
    go_ret
    exact ⟨by rw [HA.out]; rfl, rfl⟩
  ·
   obtain rfl : k = N := by omega
   have HA : Hid (ans = false) := ((HE.out k hk hz).1 rfl)
   clear HE HQ
   go_wp2
   go_ret
   exact ⟨by rw [HA.out]; rfl, rfl⟩
section
variable {W : Nat → Prop} {B : Nat} {w : World} {gx N : Nat} {f : Nat → Value} {gw : Nat} {fq : Nat → Value} {Q : Nat → List UInt8} {tk wd : Nat} {vb : Value} {off : Nat} {lr : Int} {M : List UInt8} {closed : Bool}
/-- A cell of the writer's own is set. -/
theorem Wt.buf_set (h : Wt W B w gx N f gw fq Q tk wd vb off lr M closed) (i : Nat) (hi : i < 3 ∨ i = 6) (v : Value) : Bf B (w.setCell ⟨gx, i, none⟩ v) gx 3 95 7 (upd1 f i v) vb off lr M := by
 refine ⟨(h.buf.row.set i v).congr (fun j _ => rfl), h.buf.room, ?_, ?_, ?_, ownsRow_frame h.buf.own (fun g e => Below.heap_setCell _ _ _ _ (fun e2 => h.buf.ne (by rw [← show g = gx from e2]; exact e))), h.buf.le, h.buf.ne⟩
 · rw [upd1_ne (by omega)]; exact h.buf.f0
 · rw [upd1_ne (by omega)]; exact h.buf.f1
 · rw [upd1_ne (by omega)]; exact h.buf.f2
theorem Wt.setWd (h : Wt W B w gx N f gw fq Q tk wd vb off lr M closed) (x : Nat) : Wt W B (w.setCell ⟨gx, 2, none⟩ (.int .i64 (x : Nat))) gx N (upd1 f 2 (.int .i64 (x : Nat))) gw fq Q tk x vb off lr M closed := by
 have hz : (w.setCell ⟨gx, 2, none⟩ (.int .i64 (x : Nat))).heap.size = w.heap.size := by simp [World.setCell]
 refine ⟨?_, ?_, upd1_eq _ _ _, ?_, h.few, h.buf_set 2 (by omega) _, h.bnil, h.qrow.of_block (Below.heap_setCell _ _ _ _ h.gne), fun c hc => ownsRow_frame (h.q c hc) (fun g e => Below.heap_setCell _ _ _ _ (fun e2 => (h.qne c hc).1 (by rw [← show g = gx from e2]; exact e))), h.qne, h.apart, h.gne, h.vbw, h.inW, fun b q => by rw [hz]; exact h.live b q⟩
 · rw [upd1_ne (by omega)]; exact h.f0
 · rw [upd1_ne (by omega)]; exact h.f1
 · rw [upd1_ne (by omega)]; exact h.f6
theorem Wt.setShut (h : Wt W B w gx N f gw fq Q tk wd vb off lr M closed) : Wt W B (w.setCell ⟨gx, 6, none⟩ (.bool true)) gx N (upd1 f 6 (.bool true)) gw fq Q tk wd vb off lr M true := by
 have hz : (w.setCell ⟨gx, 6, none⟩ (.bool true)).heap.size = w.heap.size := by simp [World.setCell]
 refine ⟨?_, ?_, ?_, upd1_eq _ _ _, h.few, h.buf_set 6 (by omega) _, h.bnil, h.qrow.of_block (Below.heap_setCell _ _ _ _ h.gne), fun c hc => ownsRow_frame (h.q c hc) (fun g e => Below.heap_setCell _ _ _ _ (fun e2 => (h.qne c hc).1 (by rw [← show g = gx from e2]; exact e))), h.qne, h.apart, h.gne, h.vbw, h.inW, fun b q => by rw [hz]; exact h.live b q⟩
 · rw [upd1_ne (by omega)]; exact h.f0
 · rw [upd1_ne (by omega)]; exact h.f1
 · rw [upd1_ne (by omega)]; exact h.f2
end
theorem kw_set (w : World) {W : Nat → Prop} {b i : Nat} (v : Value) (hb : W b) : Kw w (w.setCell ⟨b, i, none⟩ v) W :=
 ⟨rfl, rfl, rfl, by simp [World.setCell], fun c _ q => Below.heap_setCell w ⟨b, i, none⟩ v c (fun e => q (by rw [show c = b from e]; exact hb))⟩
set_option maxRecDepth 4000 in
set_option maxHeartbeats 400000 in
theorem tick_none (W : Nat → Prop) (B gx N : Nat) (Q : Nat → List UInt8) (tk wd : Nat) (L : List UInt8) (n : Nat) (closed : Bool) (w : World) (h : MemW W B w gx N Q tk wd L n closed) (hs : sumL N Q = 0) :
 Calls Tryz.prog 20 #[.pointer (some ⟨gx, 0, none⟩)] w fun e w' => e = .returned (.tuple #[]) ∧ w' = w := by
 have HW : Hid (_) := waits_any W B gx N Q tk wd L n closed w h
 rw [hs] at HW
 clear h
 go_enter Tryz.func20, Tryz.ntmps20
 go_wp2_with fail
 refine Calls.mono HW.out ?_
 rintro e w1 ⟨rfl, rfl⟩
 go_wp2
 refine bodyPost_ret (results_none rfl _ _ _) rfl ?_
 exact ⟨rfl, rfl⟩
/-- What Tick leaves, where bytes wait. -/
def TckP (W : Nat → Prop) (B : Nat) (w : World) (gx N : Nat) (Q : Nat → List UInt8) (tk wd : Nat) (L : List UInt8) (n : Nat) (e : Ending) (w' : World) : Prop :=
 e = .returned (.tuple #[]) ∧ Kw w w' W ∧ (wd < 2 → MemW (WN W w.heap.size w'.heap.size) B w' gx N Q tk (wd + 1) L n false) ∧
  (wd = 2 → ∃ T S : ByteArray, CutsE N T.data.toList Q ∧ T.size ≤ 3 * sumL N Q ∧ PieceOk T S ∧ MemW (WN W w.heap.size w'.heap.size) B w' gx N (fun _ => []) tk 0 (L ++ S.data.toList) (n + S.size) false)
set_option maxRecDepth 4000 in
set_option maxHeartbeats 400000 in
theorem tick_some (W : Nat → Prop) (B gx N : Nat) (Q : Nat → List UInt8) (tk wd : Nat) (L : List UInt8) (n : Nat) (w : World) (h : MemW W B w gx N Q tk wd L n false) (hs : 0 < sumL N Q) (h1 : 1 ≤ N) (hq : sumL N Q ≤ 1600) (hB : B ≤ w.heap.size) (hn : n ≤ 10000000000000) (hwd : wd ≤ 2) :
 Calls Tryz.prog 20 #[.pointer (some ⟨gx, 0, none⟩)] w (TckP W B w gx N Q tk wd L n) := by
 have HW : Hid (_) := waits_any W B gx N Q tk wd L n false w h
 rw [decide_eq_true hs] at HW
 have c2 : w.cell? ⟨gx, 2, none⟩ = some (.int .i64 (wd : Nat)) ∧ w.frozen? ⟨gx, 2, none⟩ = false := by
  obtain ⟨f, gw, fq, vb, off, lr, M, h, hd, hml⟩ := h
  exact ⟨by rw [h.buf.row.cell (i := 2) (by omega), h.f2], h.buf.row.frozen 2⟩
 have hgx := h.few.2
 have h2 : MemW W B (w.setCell ⟨gx, 2, none⟩ (.int .i64 ((wd + 1 : Nat) : Int))) gx N Q tk (wd + 1) L n false := by
  obtain ⟨f, gw, fq, vb, off, lr, M, h, hd, hml⟩ := h
  exact ⟨_, gw, fq, vb, off, lr, M, h.setWd (wd + 1), hd, hml⟩
 have k2 : Kw w (w.setCell ⟨gx, 2, none⟩ (.int .i64 ((wd + 1 : Nat) : Int))) W := kw_set w _ hgx
 have z2 : (w.setCell ⟨gx, 2, none⟩ (.int .i64 ((wd + 1 : Nat) : Int))).heap.size = w.heap.size := by simp [World.setCell]
 have eI : ((wd + 1 : Nat) : Int) = (wd : Int) + 1 := by omega
 rw [eI] at h2 k2 z2
 obtain ⟨c2, f2⟩ := c2
 have HF : Hid (_) := flush_open W B gx N Q tk (wd + 1) L n _ h2 h1 hq (by rw [z2]; exact hB) hn
 have HP : Hid (∀ e w', (wd < 2 ∧ w' = w.setCell ⟨gx, 2, none⟩ (.int .i64 ((wd : Int) + 1)) ∨ wd = 2 ∧ FluP W B (w.setCell ⟨gx, 2, none⟩ (.int .i64 ((wd : Int) + 1))) gx N Q tk L n e w') → TckP W B w gx N Q tk wd L n (.returned (.tuple #[])) w') := fun e w' q => by
  rcases q with ⟨q, rfl⟩ | ⟨q, T, S, _, hcu, hsz, hS, hk, hm⟩
  ·
   refine ⟨rfl, k2, fun _ => ?_, fun e2 => by omega⟩
   rw [z2]
   exact h2.wide (fun b q => Or.inl q) (fun b q => by
    rcases q with q | q
    · exact h2.live b q
    · omega)
  ·
   rw [z2] at hm
   exact ⟨rfl, k2.trans hk (fun _ _ q => q), fun e2 => by omega, fun _ => ⟨T, S, hcu, hsz, hS, hm⟩⟩
 clear h h2 k2 z2 eI
 generalize hP : TckP W B w gx N Q tk wd L n = P at HP ⊢
 clear hP
 by_cases hw2 : wd < 2
 ·
  have d1 : ((wd : Int) + 1 == 3) = false := by rw [beq_eq_false_iff_ne]; omega
  go_enter Tryz.func20, Tryz.ntmps20
  go_wp2_with fail
  refine Calls.mono HW.out ?_
  rintro e w1 ⟨rfl, rfl⟩
  have P0 := HP.out (.returned (.tuple #[])) _ (Or.inl ⟨hw2, rfl⟩)
  clear HF HP HW
  go_wp2
  go_end0
  exact P0
 ·
  obtain rfl : wd = 2 := by omega
  have e3 : ((2 : Nat) : Int) + 1 = 3 := rfl
  rw [e3] at HF HP
  go_enter Tryz.func20, Tryz.ntmps20
  go_wp2_with fail
  refine Calls.mono HW.out ?_
  rintro e w1 ⟨rfl, rfl⟩
  clear HW e3 hw2
  go_wp2_with fail
  refine Calls.mono HF.out ?_
  intro e w2 hp
  obtain ⟨v, rfl⟩ : ∃ v, e = .returned v := by
   obtain ⟨T, S, he, _⟩ := hp
   exact ⟨_, he⟩
  have P0 := HP.out _ w2 (Or.inr ⟨by trivial, hp⟩)
  clear HF HP hp
  go_wp2
  go_end0
  exact P0
set_option maxRecDepth 4000 in
set_option maxHeartbeats 400000 in
theorem close_closed (W : Nat → Prop) (B gx N : Nat) (Q : Nat → List UInt8) (tk wd : Nat) (L : List UInt8) (n : Nat) (w : World) (h : MemW W B w gx N Q tk wd L n true) :
 Calls Tryz.prog 12 #[.pointer (some ⟨gx, 0, none⟩)] w fun e w' => e = .returned (.int .i64 5) ∧ w' = w := by
 obtain ⟨f, gw, fq, vb, off, lr, M, h, hd, hml⟩ := h
 have c6 := h.buf.row.cell (i := 6) (by omega)
 rw [h.f6] at c6
 clear h hd hml
 go_enter Tryz.func12, Tryz.ntmps12
 go_wp2
 go_ret
 exact ⟨rfl, rfl⟩
/-- What Close leaves. -/
def CloP (W : Nat → Prop) (B : Nat) (w : World) (gx N : Nat) (Q : Nat → List UInt8) (tk : Nat) (L : List UInt8) (n : Nat) (e : Ending) (w' : World) : Prop :=
 ∃ T S : ByteArray, e = .returned (.int .i64 0) ∧ CutsE N T.data.toList Q ∧ T.size ≤ 3 * sumL N Q ∧ EndOk T S ∧ Kw w w' W ∧ MemW (WN W w.heap.size w'.heap.size) B w' gx N (fun _ => []) tk 0 (L ++ S.data.toList) (n + S.size) true
set_option maxRecDepth 4000 in
set_option maxHeartbeats 1000000 in
theorem close_open (W : Nat → Prop) (B gx N : Nat) (Q : Nat → List UInt8) (tk wd : Nat) (L : List UInt8) (n : Nat) (w : World) (h : MemW W B w gx N Q tk wd L n false) (h1 : 1 ≤ N) (hq : sumL N Q ≤ 1600) (hB : B ≤ w.heap.size) (hn : n ≤ 10000000000000) :
 Calls Tryz.prog 12 #[.pointer (some ⟨gx, 0, none⟩)] w (CloP W B w gx N Q tk L n) := by
 have HC : Hid (∀ wz : World, wz.heap = w.heap → wz.os = w.os → wz.tape = w.tape → wz.output = w.output → Calls Tryz.prog 33 #[.pointer (some ⟨gx, 0, none⟩)] wz fun e w1 => ∃ T : ByteArray, e = .returned (.string T) ∧ CutsE N T.data.toList Q ∧ T.size ≤ 3 * sumL N Q ∧ Kw w w1 W ∧ MemW (WN W w.heap.size w1.heap.size) B w1 gx N (fun _ => []) tk 0 L n false) := fun wz hh ho ht hp => by
  refine (wcut_any W B gx N Q tk wd L n false wz (h.same hh) h1 hq (by rw [hh]; exact hB)).mono ?_
  rintro e w1 ⟨T, he, hcu, hsz, hk, hm⟩
  exact ⟨T, he, hcu, hsz, hk.same hh ho ht hp, by rw [← hh]; exact hm⟩
 have c6 : w.cell? ⟨gx, 6, none⟩ = some (.bool false) := by
  obtain ⟨f, gw, fq, vb, off, lr, M, h, hd, hml⟩ := h
  rw [h.buf.row.cell (i := 6) (by omega), h.f6]
 have HX : Hid (∀ (w3 : World) (T S : ByteArray), CutsE N T.data.toList Q → T.size ≤ 3 * sumL N Q → EndOk T S → Kw w w3 W → MemW (WN W w.heap.size w3.heap.size) B w3 gx N (fun _ => []) tk 0 (L ++ S.data.toList) (n + S.size) false → w3.cell? ⟨gx, 6, none⟩ = some (.bool false) ∧ w3.frozen? ⟨gx, 6, none⟩ = false ∧ CloP W B w gx N Q tk L n (.returned (.int .i64 0)) (w3.setCell ⟨gx, 6, none⟩ (.bool true))) := fun w3 T S hcu hsz hS k3 h3 => by
  have hgx := h.few.2
  have z3 : (w3.setCell ⟨gx, 6, none⟩ (.bool true)).heap.size = w3.heap.size := by simp [World.setCell]
  obtain ⟨f, gw, fq, vb, off, lr, M, g, hd, hml⟩ := h3
  refine ⟨by rw [g.buf.row.cell (i := 6) (by omega), g.f6], g.buf.row.frozen 6, T, S, rfl, hcu, hsz, hS, k3.trans (kw_set w3 (.bool true) hgx) (fun _ _ q => q), ?_⟩
  rw [z3]
  exact ⟨_, gw, fq, vb, off, lr, M, g.setShut, hd, hml⟩
 generalize hP : CloP W B w gx N Q tk L n = P at HX ⊢
 clear h hP
 go_enter Tryz.func12, Tryz.ntmps12
 go_wp2_with fail
 go_region_with (first
  | (go_at_call 33; refine Calls.mono (HC.out _ (by rfl) (by rfl) (by rfl) (by rfl)) ?_; rintro e w1 ⟨T, rfl, hcu, hsz, k1, h2⟩)
  | (go_at_call 32; refine (write_any T _ (by omega)).mono ?_; rintro e w2 ⟨S, _, hS, rfl, hb⟩)
  | (go_at_call 31; refine Calls.mono (flush_mid k1 h2 (by rfl) (by rfl) (by rfl) (by rfl) hb (by rfl) (by rfl) (by rfl) (by rfl) hB hS.one (by have := hS.len; omega)) ?_; rintro e w3 ⟨rfl, k3, h3⟩))
 all_goals
  obtain ⟨y0, y1, P0⟩ := HX.out w3 T S hcu hsz hS k3 h3
  clear hcu hsz hS k1 h2 hb k3 h3 HC HX
  go_wp2
  exact P0
/- One line of the statements, with all that it has made. -/
theorem Kw.onto {w0 w w' : World} {W : Nat → Prop} (h : Below w0.heap.size w0 w) (hk : Kw w w' W) (hW : ∀ b, W b → w0.heap.size ≤ b) : Below w0.heap.size w0 w' :=
 ⟨hk.os.trans h.os, hk.tape.trans h.tape, hk.output.trans h.output, Nat.le_trans h.size hk.size, fun b hb => (hk.block b (by have := h.size; omega) (fun e => by have := hW b e; omega)).trans (h.block b hb)⟩
section
variable {w0 w : World} {gl gw gr N : Nat} {k : Lk} {Q : Nat → List UInt8} {tk wd : Nat} {L : List UInt8} {n : Nat} {closed : Bool} {A : ByteArray} {R : Nat → List UInt8}
end
end Go.Proofs.YtecddphahiadlaaGreatDoor
