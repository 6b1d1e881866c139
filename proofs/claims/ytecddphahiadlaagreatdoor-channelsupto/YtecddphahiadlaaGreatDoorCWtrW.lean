import Derived.Test.YtecddphahiadlaaGreatDoorCRdrY
import Derived.Lib.AppendStr
/- The program's writer of frames in memory; Wire. -/
namespace Go.Proofs.YtecddphahiadlaaGreatDoor
open Go.RowKit
/-- A writer in memory: Q waits, M are the bytes of the wire, the first off of them gone. -/
structure Wt (W : Nat → Prop) (B : Nat) (w : World) (gx N : Nat) (f : Nat → Value) (gw : Nat) (fq : Nat → Value) (Q : Nat → List UInt8) (tk wd : Nat) (vb : Value) (off : Nat) (lr : Int) (M : List UInt8) (closed : Bool) : Prop where
 f0 : f 0 = .slice (some ⟨gw, 0, none⟩) N N
 f1 : f 1 = .int .i64 (tk : Nat)
 f2 : f 2 = .int .i64 (wd : Nat)
 f6 : f 6 = .bool closed
 few : N ≤ 8
 buf : Bf B w gx 3 95 7 f vb off lr M
 bnil : M = [] → vb = .slice none 0 0
 qrow : w.rowIs gw 80 N fq
 q : ∀ c, c < N → w.ownsRow B 5 1 (fq c) (Q c).length (byteVals (Q c))
 qne : ∀ c, c < N → (fq c).ownBlock ≠ some gx ∧ (fq c).ownBlock ≠ some gw ∧ ∀ g, vb.ownBlock = some g → (fq c).ownBlock ≠ some g
 apart : ∀ c, c < N → ∀ d, d < N → c ≠ d → ∀ g, (fq c).ownBlock = some g → (fq d).ownBlock ≠ some g
 gne : gw ≠ gx
 vbw : vb.ownBlock ≠ some gw
 inW : W gx ∧ W gw ∧ (∀ g, vb.ownBlock = some g → W g) ∧ ∀ c, c < N → ∀ g, (fq c).ownBlock = some g → W g
 live : ∀ b, W b → b < w.heap.size
/-- A writer: Q waits, L is to go over the wire; it wrote at most n bytes on it in all. -/
def MemW (W : Nat → Prop) (B : Nat) (w : World) (gx N : Nat) (Q : Nat → List UInt8) (tk wd : Nat) (L : List UInt8) (n : Nat) (closed : Bool) : Prop :=
 ∃ f gw fq vb off lr M, Wt W B w gx N f gw fq Q tk wd vb off lr M closed ∧ M.drop off = L ∧ M.length ≤ n
section
variable {W : Nat → Prop} {B : Nat} {w w' : World} {gx N : Nat} {f f' : Nat → Value} {gw : Nat} {fq : Nat → Value} {Q : Nat → List UInt8} {tk wd : Nat} {vb : Value} {off : Nat} {lr : Int} {M : List UInt8} {closed : Bool}
theorem Wt.frame (h : Wt W B w gx N f gw fq Q tk wd vb off lr M closed) (hz : w.heap.size ≤ w'.heap.size) (hW : ∀ b, W b → w'.heap[b]? = w.heap[b]?) : Wt W B w' gx N f gw fq Q tk wd vb off lr M closed :=
 ⟨h.f0, h.f1, h.f2, h.f6, h.few, h.buf.frame (hW _ h.inW.1) (fun g e => hW g (h.inW.2.2.1 g e)), h.bnil, h.qrow.of_block (hW _ h.inW.2.1), fun c hc => ownsRow_frame (h.q c hc) (fun g e => hW g (h.inW.2.2.2 c hc g e)), h.qne, h.apart, h.gne, h.vbw, h.inW, fun b hb => Nat.lt_of_lt_of_le (h.live b hb) hz⟩
/-- The wire's buffer is laid anew. -/
theorem Wt.setWire (h : Wt W B w gx N f gw fq Q tk wd vb off lr M closed) {v' : Value} {off' : Nat} {lr' : Int} {M' : List UInt8} (hp : BufP B w gx 3 95 7 f vb w' v' off' lr' M') (hn : M' = [] → v' = .slice none 0 0) :
 Wt (WN W w.heap.size w'.heap.size) B w' gx N (updB f 3 v' off' lr') gw fq Q tk wd v' off' lr' M' closed ∧ Kw w w' W := by
 obtain ⟨hb, hk, hv⟩ := hp
 have hsz := hk.size
 have hl := h.live
 have hfar : ∀ b, b < w.heap.size → b ≠ gx → vb.ownBlock ≠ some b → w'.heap[b]? = w.heap[b]? := fun b h1 h2 h3 => hk.block b h1 h2 h3
 have hgw := h.qrow.lt
 have hql : ∀ c, c < N → ∀ g, (fq c).ownBlock = some g → g < w.heap.size := fun c hc g e => ((h.q c hc).lt g e).2
 refine ⟨⟨?_, ?_, ?_, ?_, h.few, hb, hn, h.qrow.of_block (hfar gw hgw h.gne h.vbw), fun c hc => ownsRow_frame (h.q c hc) (fun g e => hfar g (hql c hc g e) (fun e2 => (h.qne c hc).1 (e2 ▸ e)) (fun e2 => (h.qne c hc).2.2 g e2 e)), fun c hc => ⟨(h.qne c hc).1, (h.qne c hc).2.1, fun g e e2 => ?_⟩, h.apart, h.gne, fun e => ?_, ⟨Or.inl h.inW.1, Or.inl h.inW.2.1, fun g e => ?_, fun c hc g e => Or.inl (h.inW.2.2.2 c hc g e)⟩, fun b q => ?_⟩, ⟨hk.os, hk.tape, hk.output, hk.size, fun b hb hw => hfar b hb (fun e => hw (e ▸ h.inW.1)) (fun e => hw (h.inW.2.2.1 b e))⟩⟩
 · rw [updB_o (by omega) (by omega) (by omega)]; exact h.f0
 · rw [updB_o (by omega) (by omega) (by omega)]; exact h.f1
 · rw [updB_o (by omega) (by omega) (by omega)]; exact h.f2
 · rw [updB_o (by omega) (by omega) (by omega)]; exact h.f6
 ·
  rcases hv g e with q | q
  · exact (h.qne c hc).2.2 g q e2
  · have := hql c hc g e2; omega
 ·
  rcases hv gw e with q | q
  · exact h.vbw q
  · omega
 ·
  rcases hv g e with q | q
  · exact Or.inl (h.inW.2.2.1 g q)
  · exact Or.inr ⟨q, (hb.own.lt g e).2⟩
 ·
  rcases q with q | q
  · have := hl b q; omega
  · exact q.2
end
theorem MemW.frame {W : Nat → Prop} {B : Nat} {w w' : World} {gx N : Nat} {Q : Nat → List UInt8} {tk wd : Nat} {L : List UInt8} {n : Nat} {closed : Bool} (h : MemW W B w gx N Q tk wd L n closed) (hz : w.heap.size ≤ w'.heap.size) (hW : ∀ b, W b → w'.heap[b]? = w.heap[b]?) : MemW W B w' gx N Q tk wd L n closed := by
 obtain ⟨f, gw, fq, vb, off, lr, M, h, hd⟩ := h
 exact ⟨f, gw, fq, vb, off, lr, M, h.frame hz hW, hd⟩
/-- What Wire leaves. -/
def WiP (W : Nat → Prop) (B : Nat) (w : World) (gx N : Nat) (Q : Nat → List UInt8) (tk wd : Nat) (L : List UInt8) (n : Nat) (closed : Bool) (m : Nat) (e : Ending) (w' : World) : Prop :=
 e = .returned (.string ⟨(L.take m).toArray⟩) ∧ Kw w w' W ∧ MemW (WN W w.heap.size w'.heap.size) B w' gx N Q tk wd (L.drop m) n closed
set_option maxRecDepth 4000 in
set_option maxHeartbeats 400000 in
theorem wire_any (W : Nat → Prop) (B gx N : Nat) (Q : Nat → List UInt8) (tk wd : Nat) (L : List UInt8) (n : Nat) (closed : Bool) (most : Int) (w : World) (h : MemW W B w gx N Q tk wd L n closed) (hn : n ≤ 140737488400000) (hm : most ≤ 9223372036854775807) (hm0 : -9223372036854775808 ≤ most) :
 Calls Tryz.prog 19 #[.pointer (some ⟨gx, 0, none⟩), .int .i64 most] w (WiP W B w gx N Q tk wd L n closed most.toNat) := by
 obtain ⟨f, gw, fq, vb, off, lr, M, h, hd, hml⟩ := h
 have hle := h.buf.le
 obtain ⟨mx, hmx⟩ : ∃ mx, mx = most.toNat := ⟨_, rfl⟩
 have HF : Hid (∀ e w', NextP B w gx 3 95 7 f vb off M (min mx (M.length - off)) e w' → ∃ vs, e = .returned vs ∧ (convert 80 9 vs).run Tryz.prog w' = .ok (.string ⟨(L.take mx).toArray⟩) w' ∧ WiP W B w gx N Q tk wd L n closed mx (.returned (.string ⟨(L.take mx).toArray⟩)) w') := fun e w' hp => by
  obtain ⟨vs, lr', he, hb, hcv⟩ := hp
  have hlz : L.length = M.length - off := by rw [← hd, List.length_drop]
  have e1 : (M.drop off).take (min mx (M.length - off)) = L.take mx := by
   rw [hd, ← hlz, ← List.take_take, List.take_length]
  have e2 : M.drop (off + min mx (M.length - off)) = L.drop mx := by
   rw [← List.drop_drop, hd, ← hlz]
   rcases Nat.le_total mx L.length with q | q
   · rw [Nat.min_eq_left q]
   · rw [Nat.min_eq_right q, List.drop_length, List.drop_of_length_le q]
  rw [e1] at hcv
  obtain ⟨h5, k5⟩ := h.setWire hb h.bnil
  exact ⟨vs, he, hcv 0, rfl, k5, ⟨_, _, _, _, _, _, _, h5, e2, hml⟩⟩
 have HN : Hid (∀ mm : Int, mm = (mx : Int) → Calls Tryz.prog 36 #[.pointer (some ⟨gx, 3, none⟩), .int .i64 mm] w (NextP B w gx 3 95 7 f vb off M (min mx (M.length - off)))) := fun mm hmm => next_as B gx 3 95 7 f vb off lr M mx _ 3 mm w rfl hmm h.buf (by omega) (by omega) rfl
 rw [← hmx]
 have HM : Hid (mx = most.toNat) := hmx
 clear h hd hml hle hmx
 go_enter Tryz.func19, Tryz.ntmps19
 go_wp2_with fail
 all_goals
  refine Calls.mono (HN.out _ (by have := HM.out; omega)) ?_
  intro e w' hp
  obtain ⟨vs, rfl, hc0, P0⟩ := HF.out _ _ hp
  clear hp HF HN HM
  go_wp2
  go_ret
  exact P0
/- The program's writer of frames: NewWriter. -/
theorem make_rows (N : Nat) (hN : N ≤ 8) (W : World) : (Instr.makeSlice 89 (.int .i64 (N : Int)) (.int .i64 (N : Int))).run Tryz.prog W = .ok (.slice (some ⟨W.heap.size, 0, none⟩) N N) (W.alloc (.cells (madeCells #[.slice none 0 0] N) 80)) := by
 obtain ⟨i0, hi0, hz0, hs0, hby⟩ : ∃ i0, Tryz.prog.info? 80 = some i0 ∧ i0.zero = some (.slice none 0 0) ∧ i0.size = 1 ∧ i0.bytes = 24 := info_parts (by kernel_rfl : (Tryz.prog.info? 80).map (fun i => (i.zero, i.size, i.bytes)) = some (some (.slice none 0 0), 1, 24))
 have h := run_make (P := Tryz.prog) W 89 80 i0 (.slice none 0 0) Tryz.underlying89 hi0 hz0 .i64 .i64 (N : Int) (N : Int) (by omega) (by omega) (by rw [hby]; omega) (by omega)
 have e : (((N : Int)).toNat * i0.size) = N := by rw [hs0]; omega
 rw [e] at h
 simpa [Value.cells] using h
def newW (gw N : Nat) : Array Value := #[.slice (some ⟨gw, 0, none⟩) N N, .int .i64 0, .int .i64 0, .slice none 0 0, .int .i64 0, .int .i8 0, .bool false]
theorem neww_mem (B N gw gx : Nat) (w w3 : World) (hN : N ≤ 8) (_hB : B ≤ w.heap.size) (hg : w.heap.size ≤ gw) (hx : w.heap.size ≤ gx) (hne : gw ≠ gx) (hrow : w3.rowIs gw 80 N (fun _ => .slice none 0 0)) (hr : w3.heap[gx]? = some (.cells (newW gw N) 95 (0, 0))) :
 MemW (fun b => w.heap.size ≤ b ∧ b < w3.heap.size) B w3 gx N (fun _ => []) 0 0 [] 0 false := by
 have hgl := hrow.lt
 have hr7 : w3.rowIs gx 95 7 (fun i => (newW gw N).getD i undef) := ⟨newW gw N, hr, rfl, fun i hi => by
  have hi2 : i < (newW gw N).size := hi
  rw [Array.getElem?_eq_getElem hi2]
  simp [Array.getD, hi2]⟩
 have hxl := hr7.lt
 have hnil : ∀ l : List Value, l = [] → w3.ownsRow B 5 1 (.slice none 0 0) 0 l := fun l e => by rw [e]; exact World.ownsRow_nil _ _ _ _
 refine ⟨_, gw, fun _ => .slice none 0 0, .slice none 0 0, 0, 0, [], ⟨rfl, rfl, rfl, rfl, hN, ⟨hr7, by omega, rfl, rfl, rfl, hnil _ rfl, Nat.le_refl _, by simp [Value.ownBlock]⟩, fun _ => rfl, hrow, fun c hc => hnil _ rfl, fun c hc => ⟨by simp [Value.ownBlock], by simp [Value.ownBlock], fun g e => by simp [Value.ownBlock] at e⟩, fun c hc d hd hn g e => by simp [Value.ownBlock] at e, hne, by simp [Value.ownBlock], ⟨⟨hx, hxl⟩, ⟨hg, hgl⟩, fun g e => by simp [Value.ownBlock] at e, fun c hc g e => by simp [Value.ownBlock] at e⟩, fun b q => q.2⟩, rfl, Nat.le_refl _⟩
set_option maxRecDepth 4000 in
set_option maxHeartbeats 400000 in
theorem newWriter_any (B N : Nat) (w : World) (h1 : 1 ≤ N) (hN : N ≤ 8) (hB : B ≤ w.heap.size) :
 Calls Tryz.prog 27 #[.int .i64 (N : Int)] w fun e w' => ∃ gx, e = .returned (.tuple #[.pointer (some ⟨gx, 0, none⟩), .int .i64 0]) ∧ w.heap.size ≤ gx ∧ MemW (fun b => w.heap.size ≤ b ∧ b < w'.heap.size) B w' gx N (fun _ => []) 0 0 [] 0 false ∧ Below w.heap.size w w' := by
 have hmk := make_rows N hN
 have hrow := fun W => World.rowIs_made W (.slice none 0 0) N 80
 generalize madeCells #[.slice none 0 0] N = Mz at hmk hrow
 go_enter Tryz.func27, Tryz.ntmps27
 go_wp2_with fail
 refine (allowed_any N w h1 hN).mono ?_
 rintro e w1 ⟨rfl, rfl⟩
 have P : MemW (fun b => w1.heap.size ≤ b ∧ b < ((w1.alloc (.cells Mz 80)).alloc (.cells (newW w1.heap.size N) 95)).heap.size) B ((w1.alloc (.cells Mz 80)).alloc (.cells (newW w1.heap.size N) 95)) (w1.heap.size + 1) N (fun _ => []) 0 0 [] 0 false := by
  have e : (w1.alloc (.cells Mz 80)).heap.size = w1.heap.size + 1 := by simp
  have q := heap_alloc_last (w1.alloc (.cells Mz 80)) (.cells (newW w1.heap.size N) 95)
  rw [e] at q
  exact neww_mem B N w1.heap.size (w1.heap.size + 1) w1 _ hN hB (Nat.le_refl _) (by omega) (by omega) ((hrow w1).alloc _) q
 have hb2 : Below w1.heap.size w1 ((w1.alloc (.cells Mz 80)).alloc (.cells (newW w1.heap.size N) 95)) := ((Below.refl _ _).alloc (Nat.le_refl _) _).alloc (by simp) _
 go_wp2_with fail
 go_ret2
 exact ⟨w1.heap.size + 1, rfl, by omega, P, hb2⟩
/- append of a string's bytes, as a step of a drawing region: where the row lies. -/
theorem run_appendS (w : World) (B : Nat) (ty : TypeId) (v : Value) (n : Nat) (xs : List UInt8) (hown : w.ownsRow B 5 1 v n (byteVals xs)) (s : ByteArray) (h63 : n + s.size ≤ 1000000) (hbase : B ≤ w.heap.size) :
 ∃ v' w', (Builtin.append_ #[80, 9] ty #[v, .string s]).run Tryz.prog w = .ok v' w' ∧ w'.ownsRow B 5 1 v' (n + s.size) (byteVals (xs ++ s.data.toList)) ∧ w.grownBy w' v.ownBlock ∧ ∀ g, v'.ownBlock = some g → v.ownBlock = some g ∨ w.heap.size ≤ g := by
 obtain ⟨i0, hi0, hz0, hs0, hby⟩ := info_parts Tryz.info5
 have hm : n + s.size ≤ maxLen := by unfold maxLen; omega
 obtain ⟨v', w', hr, h2, h3, h4⟩ := Go.Lib.run_append_own_string (P := Tryz.prog) w B 80 9 ty 5 i0 Tryz.underlying80 Tryz.underlying9 hi0 hz0 hs0 hby v n (byteVals xs) hown s hm (by omega) hbase
 refine ⟨v', w', hr, ?_, h3, fun g eg => ?_⟩
 ·
  have e : byteVals xs ++ Go.Lib.strCells s = byteVals (xs ++ s.data.toList) := by unfold byteVals Go.Lib.strCells; rw [List.map_append]
  rw [← e]; exact h2
 ·
  have hown0 := hown
  obtain ⟨hlx, q⟩ := hown
  rcases q with ⟨rfl, rfl⟩ | ⟨g0, cap, cur, rfl, hbg, hg, hnc, hcm, hcs, htake⟩
  ·
   by_cases h0 : s.size = 0
   ·
    rw [h4.2 ⟨rfl, h0⟩] at eg
    simp [Value.ownBlock] at eg
   ·
    have hr2 := run_append_nil_string (P := Tryz.prog) w 80 9 ty 5 i0 (.int .u8 0) Tryz.underlying80 Tryz.underlying9 hi0 hz0 s (by omega) (by omega) (by rw [hby]; omega)
    rw [hr] at hr2
    injection hr2 with e1 e2
    rw [e1] at eg
    have : w.heap.size = g := Option.some.inj eg
    exact Or.inr (by omega)
  ·
   by_cases hroom : n + s.size ≤ cap
   ·
    have hr2 := Go.Lib.run_append_room_string (P := Tryz.prog) w 80 9 ty 5 i0 Tryz.underlying80 Tryz.underlying9 hi0 hs0 g0 n cap cur hg s hroom (by omega)
    rw [hr] at hr2
    injection hr2 with e1 e2
    rw [e1] at eg
    exact Or.inl eg
   ·
    have hxl : (byteVals xs).length = n := by simpa using hlx
    have hr2 := Go.Lib.run_append_grow_string (P := Tryz.prog) w 80 9 ty 5 i0 (.int .u8 0) Tryz.underlying80 Tryz.underlying9 hi0 hz0 ⟨g0, 0, none⟩ n cap (byteVals xs) (by rw [hs0]; omega) (hown0.cells (g := g0) rfl) s (by omega) (by omega) (by rw [hby]; exact growslice_fits (by omega) (by omega))
    rw [hr] at hr2
    injection hr2 with e1 e2
    rw [e1] at eg
    have : w.heap.size = g := Option.some.inj eg
    exact Or.inr (by omega)
theorem step_appendS {ops : Array Oper} {o : Oper} {a : Act} {w : World} {K : Act → World → Prop} {Q : Exit → Act → World → Prop} {E : Prop}
 (hg : o.guard = none) (sl x : Operand) (hop : o.op = Op.call { callee := Callee.builtin Builtin.append, args := #[sl, x], argTypes := #[80, 9] })
 (B : Nat) (v : Value) (n : Nat) (xs : List UInt8) (s : ByteArray) (hs : a.eval sl = v) (hx : a.eval x = .string s)
 (hown : w.ownsRow B 5 1 v n (byteVals xs)) (h63 : n + s.size ≤ 1000000) (hbase : B ≤ w.heap.size)
 (hK : ∀ v' w', w'.ownsRow B 5 1 v' (n + s.size) (byteVals (xs ++ s.data.toList)) → w.grownBy w' v.ownBlock → (∀ g, v'.ownBlock = some g → v.ownBlock = some g ∨ w.heap.size ≤ g) → K (a.put o.dst v') w') :
 if Region.wanted o (yielded ops a.tmps) = true then Oper.wp Tryz.prog o a w K Q else E := by
 have hw : Region.wanted o (yielded ops a.tmps) = true := by simp [Region.wanted, hg]
 rw [if_pos hw]
 obtain ⟨v', w', hrun, r1, r2, r3⟩ := run_appendS w B o.type v n xs hown s h63 hbase
 unfold Oper.wp
 simp [execOp, hop, resolve, invoke, builtin, hs, hx, hrun, Result.andThen]
 exact hK v' w' r1 r2 r3
/- The program's writer of frames: Write. -/
/-- How many bytes are taken. -/
def takenN (q tk n : Nat) : Nat := min n (min (200 - q) (1500 - tk))
def WrtP (W : Nat → Prop) (B : Nat) (w : World) (gx N : Nat) (Q : Nat → List UInt8) (tk wd : Nat) (L : List UInt8) (n : Nat) (c : Nat) (S : ByteArray) (e : Ending) (w' : World) : Prop :=
 e = .returned (.tuple #[.int .i64 (takenN (Q c).length tk S.size : Nat), .int .i64 0]) ∧ Kw w w' W ∧ MemW (WN W w.heap.size w'.heap.size) B w' gx N (fun d => if d = c then Q c ++ S.data.toList.take (takenN (Q c).length tk S.size) else Q d) (tk + takenN (Q c).length tk S.size) wd L n false
/-- Bytes more wait on a channel. -/
theorem write_fin {W : Nat → Prop} {B : Nat} {w1 w2 : World} {gx N : Nat} {f : Nat → Value} {gw : Nat} {fq : Nat → Value} {Q : Nat → List UInt8} {tk wd : Nat} {vb : Value} {off : Nat} {lr : Int} {M : List UInt8} {c : Nat} {v' : Value} {X : List UInt8}
 (h : Wt W B w1 gx N f gw fq Q tk wd vb off lr M false) (hc : c < N) (ho : w2.ownsRow B 5 1 v' (Q c ++ X).length (byteVals (Q c ++ X))) (hg : w1.grownBy w2 (fq c).ownBlock) (hl : ∀ g, v'.ownBlock = some g → (fq c).ownBlock = some g ∨ w1.heap.size ≤ g) (tk' : Nat) :
 w2.cell? ⟨gw, c, none⟩ = some (fq c) ∧ w2.frozen? ⟨gw, c, none⟩ = false ∧ (w2.setCell ⟨gw, c, none⟩ v').cell? ⟨gx, 1, none⟩ = some (.int .i64 (tk : Nat)) ∧ (w2.setCell ⟨gw, c, none⟩ v').frozen? ⟨gx, 1, none⟩ = false ∧
 Wt (WN W w1.heap.size ((w2.setCell ⟨gw, c, none⟩ v').setCell ⟨gx, 1, none⟩ (.int .i64 (tk' : Nat))).heap.size) B ((w2.setCell ⟨gw, c, none⟩ v').setCell ⟨gx, 1, none⟩ (.int .i64 (tk' : Nat))) gx N (upd1 f 1 (.int .i64 (tk' : Nat))) gw (upd1 fq c v') (fun d => if d = c then Q c ++ X else Q d) tk' wd vb off lr M false ∧ Kw w1 ((w2.setCell ⟨gw, c, none⟩ v').setCell ⟨gx, 1, none⟩ (.int .i64 (tk' : Nat))) W := by
 have hgx := h.buf.row.lt
 have hgw := h.qrow.lt
 obtain ⟨qx, qw, qb⟩ := h.qne c hc
 have hs2 := hg.size
 have bk : ∀ b, b < w1.heap.size → (fq c).ownBlock ≠ some b → w2.heap[b]? = w1.heap[b]? := fun b hb hn => hg.block b hb (fun e => hn e.symm)
 have hr2 := h.qrow.of_block (bk gw hgw qw)
 have hx2 := h.buf.row.of_block (bk gx hgx qx)
 have hx3 := hx2.of_block (Below.heap_setCell w2 ⟨gw, c, none⟩ v' gx (fun e => h.gne e.symm))
 have hbl : ∀ g, vb.ownBlock = some g → g < w1.heap.size := fun g e => (h.buf.own.lt g e).2
 have hql : ∀ d, d < N → ∀ g, (fq d).ownBlock = some g → g < w1.heap.size := fun d hd g e => ((h.q d hd).lt g e).2
 have hz : ((w2.setCell ⟨gw, c, none⟩ v').setCell ⟨gx, 1, none⟩ (.int .i64 (tk' : Nat))).heap.size = w2.heap.size := by simp [World.setCell]
 have b4 : ∀ b, b ≠ gw → b ≠ gx → ((w2.setCell ⟨gw, c, none⟩ v').setCell ⟨gx, 1, none⟩ (.int .i64 (tk' : Nat))).heap[b]? = w2.heap[b]? := fun b h1 h2 => (Below.heap_setCell _ _ _ _ h2).trans (Below.heap_setCell _ _ _ _ h1)
 have hv'x : v'.ownBlock ≠ some gx := fun e => by
  rcases hl _ e with q | q
  · exact qx q
  · omega
 have hv'w : v'.ownBlock ≠ some gw := fun e => by
  rcases hl _ e with q | q
  · exact qw q
  · omega
 refine ⟨hr2.cell hc, hr2.frozen c, by rw [hx3.cell (by omega), h.f1], hx3.frozen 1, ⟨?_, upd1_eq _ _ _, ?_, ?_, h.few, ?_, h.bnil, ?_, fun d hd => ?_, fun d hd => ?_, fun d hd d2 hd2 hne g e e2 => ?_, h.gne, h.vbw, ⟨Or.inl h.inW.1, Or.inl h.inW.2.1, fun g e => Or.inl (h.inW.2.2.1 g e), fun d hd g e => ?_⟩, fun b q => ?_⟩, ⟨hg.os, hg.tape, hg.output, by rw [hz]; exact hs2, fun b hb hw => ?_⟩⟩
 · rw [upd1_ne (by omega)]; exact h.f0
 · rw [upd1_ne (by omega)]; exact h.f2
 · rw [upd1_ne (by omega)]; exact h.f6
 ·
  refine ⟨(hx3.set 1 _).congr (fun i _ => rfl), h.buf.room, ?_, ?_, ?_, ?_, h.buf.le, h.buf.ne⟩
  · rw [upd1_ne (by omega)]; exact h.buf.f0
  · rw [upd1_ne (by omega)]; exact h.buf.f1
  · rw [upd1_ne (by omega)]; exact h.buf.f2
  · exact ownsRow_frame h.buf.own (fun g e => (b4 g (fun e2 => h.vbw (e2 ▸ e)) (fun e2 => h.buf.ne (e2 ▸ e))).trans (bk g (hbl g e) (fun e2 => qb g e e2)))
 · exact ((hr2.set c v').congr (fun i _ => rfl)).of_block (Below.heap_setCell _ _ _ _ h.gne)
 ·
  by_cases e : d = c
  ·
   subst e
   simp only [upd1_eq, if_true]
   exact ownsRow_frame ho (fun g eg => b4 g (fun e2 => hv'w (e2 ▸ eg)) (fun e2 => hv'x (e2 ▸ eg)))
  ·
   simp only [upd1_ne e, if_neg e]
   exact ownsRow_frame (h.q d hd) (fun g eg => (b4 g (fun e2 => (h.qne d hd).2.1 (e2 ▸ eg)) (fun e2 => (h.qne d hd).1 (e2 ▸ eg))).trans (bk g (hql d hd g eg) (fun e2 => h.apart c hc d hd (fun x => e x.symm) g e2 eg)))
 ·
  by_cases e : d = c
  ·
   subst e
   rw [upd1_eq]
   refine ⟨hv'x, hv'w, fun g e1 e2 => ?_⟩
   rcases hl g e2 with q | q
   · exact qb g e1 q
   · have := hbl g e1; omega
  · rw [upd1_ne e]; exact h.qne d hd
 ·
  by_cases q : d = c
  ·
   have q2 : d2 ≠ c := fun x => hne (q.trans x.symm)
   rw [q, upd1_eq] at e
   rw [upd1_ne q2] at e2
   rcases hl g e with q3 | q3
   · exact h.apart c hc d2 hd2 (fun x => q2 x.symm) g q3 e2
   · have := hql d2 hd2 g e2; omega
  ·
   rw [upd1_ne q] at e
   by_cases q2 : d2 = c
   ·
    rw [q2, upd1_eq] at e2
    rcases hl g e2 with q3 | q3
    · exact h.apart d hd c hc q g e q3
    · have := hql d hd g e; omega
   ·
    rw [upd1_ne q2] at e2
    exact h.apart d hd d2 hd2 hne g e e2
 ·
  by_cases q : d = c
  ·
   rw [q, upd1_eq] at e
   rcases hl g e with q3 | q3
   · exact Or.inl (h.inW.2.2.2 c hc g q3)
   · exact Or.inr ⟨q3, by rw [hz]; exact (ho.lt g e).2⟩
  ·
   rw [upd1_ne q] at e
   exact Or.inl (h.inW.2.2.2 d hd g e)
 ·
  rcases q with q | q
  · have := h.live b q; rw [hz]; omega
  · exact q.2
 · exact (b4 b (fun e => hw (e ▸ h.inW.2.1)) (fun e => hw (e ▸ h.inW.1))).trans (bk b hb (fun e => hw (h.inW.2.2.2 c hc b e)))
set_option maxRecDepth 4000 in
set_option maxHeartbeats 400000 in
theorem write_closed (W : Nat → Prop) (B gx N : Nat) (Q : Nat → List UInt8) (tk wd : Nat) (L : List UInt8) (n : Nat) (c : Nat) (S : ByteArray) (w : World) (h : MemW W B w gx N Q tk wd L n true) (hc : c < N) :
 Calls Tryz.prog 11 #[.pointer (some ⟨gx, 0, none⟩), .int .i64 (c : Int), .string S] w fun e w' => e = .returned (.tuple #[.int .i64 0, .int .i64 5]) ∧ w' = w := by
 obtain ⟨f, gw, fq, vb, off, lr, M, h, hd, hml⟩ := h
 have c0 := h.buf.row.cell (i := 0) (by omega)
 rw [h.f0] at c0
 have c6 := h.buf.row.cell (i := 6) (by omega)
 rw [h.f6] at c6
 have hcI : (c : Int) < (N : Int) := by omega
 have d1 : decide ((c : Int) < 0) = false := by rw [decide_eq_false_iff_not]; omega
 have d2 : decide ((N : Int) ≤ (c : Int)) = false := by rw [decide_eq_false_iff_not]; omega
 clear h hd hml hc
 go_enter Tryz.func11, Tryz.ntmps11
 go_wp2
 go_ret2
 exact ⟨rfl, rfl⟩
set_option maxRecDepth 4000 in
set_option maxHeartbeats 400000 in
theorem write_open (W : Nat → Prop) (B gx N : Nat) (Q : Nat → List UInt8) (tk wd : Nat) (L : List UInt8) (n : Nat) (c : Nat) (S : ByteArray) (w : World) (h : MemW W B w gx N Q tk wd L n false) (hc : c < N) (hq : (Q c).length ≤ 200) (ht : tk ≤ 1500) (hB : B ≤ w.heap.size) (hS : S.size ≤ 140737488400000) :
 Calls Tryz.prog 11 #[.pointer (some ⟨gx, 0, none⟩), .int .i64 (c : Int), .string S] w (WrtP W B w gx N Q tk wd L n c S) := by
 obtain ⟨f, gw, fq, vb, off, lr, M, h, hd, hml⟩ := h
 have c0 := h.buf.row.cell (i := 0) (by omega)
 rw [h.f0] at c0
 have c1 := h.buf.row.cell (i := 1) (by omega)
 rw [h.f1] at c1
 have c6 := h.buf.row.cell (i := 6) (by omega)
 rw [h.f6] at c6
 have z1 := h.buf.row.frozen 1
 have zq := h.qrow.frozen c
 have cq := h.qrow.cell hc
 have hown := h.q c hc
 obtain ⟨ao, cap, hv⟩ : ∃ ao cap, fq c = .slice ao (Q c).length cap := by
  obtain ⟨_, q⟩ := hown
  rcases q with ⟨q, q0⟩ | ⟨g, cap, cur, q, _⟩
  · exact ⟨none, 0, by rw [q, q0]⟩
  · exact ⟨_, _, q⟩
 rw [hv] at cq hown
 have hcI : (c : Int) < (N : Int) := by omega
 have hcN : ¬ N ≤ c := by omega
 have d1 : decide ((c : Int) < 0) = false := by rw [decide_eq_false_iff_not]; omega
 have d2 : decide ((N : Int) ≤ (c : Int)) = false := by rw [decide_eq_false_iff_not]; omega
 have HP : Hid (WrtP W B w gx N Q tk wd L n c S = WrtP W B w gx N Q tk wd L n c S) := rfl
 obtain ⟨q, hqq⟩ : ∃ q, q = (Q c).length := ⟨_, rfl⟩
 rw [← hqq] at cq hown hq hv
 obtain ⟨a1, ha1⟩ : ∃ a1 : Nat, a1 = 200 - q := ⟨_, rfl⟩
 obtain ⟨a2, ha2⟩ : ∃ a2 : Nat, a2 = 1500 - tk := ⟨_, rfl⟩
 have e1 : (200 : Int) - (q : Int) = (a1 : Int) := by omega
 have e2 : (1500 : Int) - (tk : Int) = (a2 : Int) := by omega
 have HA1 : Hid (a1 = 200 - q) := ha1
 have HA2 : Hid (a2 = 1500 - tk) := ha2
 have hb1 : a1 ≤ 200 := by omega
 have hb2 : a2 ≤ 1500 := by omega
 have HH : Hid (Wt W B w gx N f gw fq Q tk wd vb off lr M false ∧ M.drop off = L ∧ M.length ≤ n) := ⟨h, hd, hml⟩
 have HQ : Hid (q = (Q c).length) := hqq
 clear ha1 ha2 h hd hml hqq
 go_enter Tryz.func11, Tryz.ntmps11
 go_wp2_with fail
 go_big_quiet (fail)
 obtain ⟨a3, ha3⟩ : ∃ a3 : Nat, a3 = min a1 a2 := ⟨_, rfl⟩
 have e3 : (if a2 < a1 then (a2 : Int) else (a1 : Int)) = (a3 : Int) := by split <;> omega
 rw [e3]
 have hb3 : a3 ≤ 200 := by omega
 have HA3 : Hid (a3 = min a1 a2) := ha3
 clear ha3 e3 hb1 hb2 e1 e2
 have c0' : (w.drewN nq).cell? ⟨gx, 0, none⟩ = _ := c0
 have c1' : (w.drewN nq).cell? ⟨gx, 1, none⟩ = _ := c1
 have z1' : (w.drewN nq).frozen? ⟨gx, 1, none⟩ = _ := z1
 have zq' : (w.drewN nq).frozen? ⟨gw, c, none⟩ = _ := zq
 have cq' : (w.drewN nq).cell? ⟨gw, c, none⟩ = _ := cq
 have hown' : (w.drewN nq).ownsRow B 5 1 (.slice ao q cap) q (byteVals (Q c)) := hown
 have HH' : Hid (Wt W B (w.drewN nq) gx N f gw fq Q tk wd vb off lr M false ∧ M.drop off = L ∧ M.length ≤ n ∧ Kw w (w.drewN nq) W ∧ (w.drewN nq).heap.size = w.heap.size) := ⟨HH.out.1.frame (Nat.le_refl _) (fun _ _ => rfl), HH.out.2.1, HH.out.2.2, (Kw.refl w W).drewN nq, rfl⟩
 have hB' : B ≤ (w.drewN nq).heap.size := hB
 clear c0 c1 z1 zq cq hown HH hB c6
 generalize w.drewN nq = w1 at c0' c1' z1' zq' cq' hown' HH' hB' ⊢
 obtain ⟨k, hk⟩ : ∃ k : Nat, k = min S.size a3 := ⟨_, rfl⟩
 have HK : Hid (k = min S.size a3) := hk
 have e4 : (if a3 < S.size then (a3 : Int) else (S.size : Int)) = (k : Int) := by split <;> omega
 have hkS : k ≤ S.size := by omega
 have hk2 : k ≤ 200 := by omega
 clear hk
 have HF : Hid (∀ v' w2, w2.ownsRow B 5 1 v' (q + (S.extract 0 k).size) (byteVals (Q c ++ (S.extract 0 k).data.toList)) → w1.grownBy w2 (Value.slice ao q cap).ownBlock → (∀ g, v'.ownBlock = some g → (Value.slice ao q cap).ownBlock = some g ∨ w1.heap.size ≤ g) →
  (∃ ao' cap', v' = .slice ao' (q + (S.extract 0 k).size) cap') ∧ w2.cell? ⟨gx, 0, none⟩ = some (.slice (some ⟨gw, 0, none⟩) N N) ∧ w2.cell? ⟨gw, c, none⟩ = some (.slice ao q cap) ∧ w2.frozen? ⟨gw, c, none⟩ = false ∧ (w2.setCell ⟨gw, c, none⟩ v').cell? ⟨gx, 1, none⟩ = some (.int .i64 (tk : Nat)) ∧ (w2.setCell ⟨gw, c, none⟩ v').frozen? ⟨gx, 1, none⟩ = false ∧
  WrtP W B w gx N Q tk wd L n c S (.returned (.tuple #[.int .i64 (k : Nat), .int .i64 0])) ((w2.setCell ⟨gw, c, none⟩ v').setCell ⟨gx, 1, none⟩ (.int .i64 (tk + k : Nat)))) := fun v' w2 ho hg hl => by
  obtain ⟨hW, hd, hml, hkw, hz⟩ := HH'.out
  have hkk : takenN (Q c).length tk S.size = k := by
   have q1 := HA1.out
   have q2 := HA2.out
   have q3 := HA3.out
   have q4 := HK.out
   have q5 := HQ.out
   unfold takenN
   omega
  have hex : (S.extract 0 k).data.toList = S.data.toList.take k := by
   rw [ByteArray.data_extract, Array.toList_extract, List.extract_eq_take_drop]
   simp
  have hle : q + (S.extract 0 k).size = (Q c ++ (S.extract 0 k).data.toList).length := by rw [List.length_append, ← HQ.out, size_list]
  refine ⟨?_, ?_⟩
  ·
   obtain ⟨_, r⟩ := ho
   rcases r with ⟨r, r0⟩ | ⟨g, cap', cur, r, _⟩
   · exact ⟨none, 0, by rw [r, r0]⟩
   · exact ⟨_, _, r⟩
  ·
   rw [hle] at ho
   rw [← hv] at hg hl ⊢
   obtain ⟨r1, r2, r3, r4, r5, r6⟩ := write_fin hW hc ho hg hl (tk + k)
   have r0 : w2.cell? ⟨gx, 0, none⟩ = some (.slice (some ⟨gw, 0, none⟩) N N) := by rw [(hW.buf.row.of_block (hg.block gx hW.buf.row.lt (fun e => (hW.qne c hc).1 e.symm))).cell (by omega), hW.f0]
   refine ⟨r0, r1, r2, r3, r4, by rw [hkk], hkw.trans r6 (fun _ _ q => q), ?_⟩
   rw [hkk, ← hex, ← hz]
   exact ⟨_, _, _, _, _, _, _, r5, hd, hml⟩
 have hkI : (k : Int) ≤ (S.size : Int) := by omega
 have hex2 : (S.extract 0 k).size ≤ 200 := by rw [ByteArray.size_extract]; omega
 have HT : Hid ((tk : Int) + (k : Int) = ((tk + k : Nat) : Int)) := by show _ = _; omega
 clear HH' HK HA1 HA2 HA3 HQ HP hv hkS nq hb3
 go_wp2_with fail
 go_region_law (
  refine step_appendS rfl (.tmp 55) (.tmp 58) rfl B (.slice ao q cap) q (Q c) (S.extract 0 k) (by simp [Act.eval]) (by simp [Act.eval]) hown' (by omega) hB' ?_
  intro v' w2 ho hg hl
  obtain ⟨⟨ao', cap', rfl⟩, r0, r1, r2, r3, r4, P⟩ := HF.out v' w2 ho ⟨hg.os, hg.tape, hg.output, hg.size, hg.block⟩ hl
  clear ho hg hl)
 all_goals
  have es : (S.extract 0 k).size = min k S.size := by rw [ByteArray.size_extract]; omega
  rw [es] at r3 r4 P
  rw [← HT.out] at P
  generalize w2.setCell ⟨gw, c, none⟩ (.slice ao' (q + min k S.size) cap') = w3 at r3 r4 P ⊢
  clear HF r0 r1 r2 hown' c0' c1' z1' zq' cq' es hex2 HT e4
  go_wp2
  go_ret2
  exact P
end Go.Proofs.YtecddphahiadlaaGreatDoor
