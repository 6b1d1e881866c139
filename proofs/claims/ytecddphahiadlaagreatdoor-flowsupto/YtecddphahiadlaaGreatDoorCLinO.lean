import Derived.Test.YtecddphahiadlaaGreatDoorCLinW
import Derived.Deep.RegionWith
import Derived.BigRegion
import Derived.Test.YtecddphahiadlaaGreatDoorCOrdL
/- The program's writer of frames: waits, Tick, Close. -/
namespace Go.Proofs.YtecddphahiadlaaGreatDoor
open Go.RowKit

theorem sumL_none : ∀ (N : Nat) (Q : Nat → List UInt8), (∀ c, c < N → Q c = []) → sumL N Q = 0
  | 0, _, _ => rfl
  | N + 1, Q, h => by
    simp only [sumL]
    rw [sumL_none N Q (fun c hc => h c (by omega)), h N (by omega)]
    rfl
theorem sumL_some : ∀ (N : Nat) (Q : Nat → List UInt8) (c : Nat), c < N → (Q c).length ≤ sumL N Q
  | N + 1, Q, c, hc => by
    simp only [sumL]
    by_cases e : c = N
    · subst e; omega
    · have := sumL_some N Q c (by omega); omega

set_option maxRecDepth 4000 in
set_option maxHeartbeats 400000 in
theorem waits_any (W : Nat → Prop) (B gx N : Nat) (Q : Nat → List UInt8) (tk wd : Nat) (L : List UInt8) (n : Nat) (closed : Bool) (w : World) (h : MemW W B w gx N Q tk wd L n closed) :
    Calls Tryz.prog 37 #[.pointer (some ⟨gx, 0, none⟩)] w fun e w' => e = .returned (.bool (decide (0 < sumL N Q))) ∧ w' = w := by
  obtain ⟨f, gw, fq, vb, off, lr, M, h, hd, hml⟩ := h
  have c0 := h.buf.row.cell (i := 0) (by omega)
  rw [h.f0] at c0
  have hN8 := h.few
  have HQ : Hid (∀ k, k < N → w.cell? ⟨gw, k, none⟩ = some (fq k) ∧ ∃ ao cap, fq k = .slice ao (Q k).length cap) := fun k hk => ⟨h.qrow.cell hk, by
    obtain ⟨_, q⟩ := h.q k hk
    rcases q with ⟨q, q0⟩ | ⟨g, cap, cur, q, _⟩
    · exact ⟨none, 0, by rw [q, q0]⟩
    · exact ⟨_, _, q⟩⟩
  clear h hd hml
  have HE : Hid (∀ k, k ≤ N → (∀ c, c < k → Q c = []) → (k = N → decide (0 < sumL N Q) = false) ∧ (k < N → Q k ≠ [] → decide (0 < sumL N Q) = true)) := fun k hk hz => ⟨fun e => by
      subst e
      rw [sumL_none k Q hz]
      rfl, fun hlt hne => by
      have := sumL_some N Q k hlt
      have h1 : 1 ≤ (Q k).length := List.length_pos_iff.2 hne
      rw [decide_eq_true_iff]
      omega⟩
  generalize decide (0 < sumL N Q) = ans at HE ⊢
  go_enter Tryz.func37, Tryz.ntmps37
  go_wp2_with fail
  go_loopw [10] (fun i wr => ∃ k : Nat, k ≤ N ∧ i = .int .i64 (k : Nat) ∧ wr = w ∧ ∀ c, c < k → Q c = []) (fun i _ => N - (intOf i).toNat)
  case atStart => exact ⟨0, Nat.zero_le _, rfl, rfl, fun c hc => by omega⟩
  case round =>
    obtain ⟨k, hk, rfl, rfl, hz⟩ := hrel
    by_cases hlt : k < N
    · obtain ⟨cq, ao, cap, hv⟩ := HQ.out k hlt
      rw [hv] at cq
      have hkI : (k : Int) < (N : Int) := by omega
      by_cases hq : (Q k).length = 0
      · have e0 : decide (0 < (Q k).length) = false := by rw [decide_eq_false_iff_not]; omega
        have hz' : ∀ c, c < k + 1 → Q c = [] := fun c hc => by
          by_cases e : c = k
          · subst e; exact List.eq_nil_of_length_eq_zero hq
          · exact hz c (by omega)
        rw [hq] at cq
        clear HE HQ hv
        go_wp2_with fail
        go_roundw
        case rel => exact ⟨k + 1, by omega, by go_num, by trivial, hz'⟩
        case measure => simp [intOf]; omega
      · have HA : Hid (ans = true) := ((HE.out k hk hz).2 hlt (fun e => hq (by rw [e]; rfl)))
        generalize (Q k).length = q at cq hq
        have hqI : (0 : Int) < (q : Int) := by omega
        have hqN : 0 < q := by omega
        clear HE HQ hv
        go_wp2
        go_ret
        exact ⟨by rw [HA.out]; rfl, rfl⟩
    · obtain rfl : k = N := by omega
      have HA : Hid (ans = false) := ((HE.out k hk hz).1 rfl)
      clear HE HQ
      go_wp2
      go_ret
      exact ⟨by rw [HA.out]; rfl, rfl⟩

section
variable {W : Nat → Prop} {B : Nat} {w : World} {gx N : Nat} {f : Nat → Value} {gw : Nat} {fq : Nat → Value} {Q : Nat → List UInt8} {tk wd : Nat} {vb : Value} {off : Nat} {lr : Int} {M : List UInt8} {closed : Bool}

/-- A cell of the writer's own is set. -/
theorem Wt.buf_set (h : Wt W B w gx N f gw fq Q tk wd vb off lr M closed) (i : Nat) (hi : i < 3 ∨ i = 6) (v : Value) : Bf B (w.setCell ⟨gx, i, none⟩ v) gx 3 95 7 (upd1 f i v) vb off lr M := by
  refine ⟨(h.buf.row.set i v).congr (fun j _ => rfl), h.buf.room, ?_, ?_, ?_, ownsRow_frame h.buf.own (fun g e => Below.heap_setCell _ _ _ _ (fun e2 => h.buf.ne (by rw [← show g = gx from e2]; exact e))), h.buf.le, h.buf.ne⟩
  · rw [upd1_ne (by omega)]; exact h.buf.f0
  · rw [upd1_ne (by omega)]; exact h.buf.f1
  · rw [upd1_ne (by omega)]; exact h.buf.f2
theorem Wt.setWd (h : Wt W B w gx N f gw fq Q tk wd vb off lr M closed) (x : Nat) : Wt W B (w.setCell ⟨gx, 2, none⟩ (.int .i64 (x : Nat))) gx N (upd1 f 2 (.int .i64 (x : Nat))) gw fq Q tk x vb off lr M closed := by
  have hz : (w.setCell ⟨gx, 2, none⟩ (.int .i64 (x : Nat))).heap.size = w.heap.size := by simp [World.setCell]
  refine ⟨?_, ?_, upd1_eq _ _ _, ?_, h.few, h.buf_set 2 (by omega) _, h.bnil, h.qrow.of_block (Below.heap_setCell _ _ _ _ h.gne), fun c hc => ownsRow_frame (h.q c hc) (fun g e => Below.heap_setCell _ _ _ _ (fun e2 => (h.qne c hc).1 (by rw [← show g = gx from e2]; exact e))), h.qne, h.apart, h.gne, h.vbw, h.inW, fun b q => by rw [hz]; exact h.live b q⟩
  · rw [upd1_ne (by omega)]; exact h.f0
  · rw [upd1_ne (by omega)]; exact h.f1
  · rw [upd1_ne (by omega)]; exact h.f6
theorem Wt.setShut (h : Wt W B w gx N f gw fq Q tk wd vb off lr M closed) : Wt W B (w.setCell ⟨gx, 6, none⟩ (.bool true)) gx N (upd1 f 6 (.bool true)) gw fq Q tk wd vb off lr M true := by
  have hz : (w.setCell ⟨gx, 6, none⟩ (.bool true)).heap.size = w.heap.size := by simp [World.setCell]
  refine ⟨?_, ?_, ?_, upd1_eq _ _ _, h.few, h.buf_set 6 (by omega) _, h.bnil, h.qrow.of_block (Below.heap_setCell _ _ _ _ h.gne), fun c hc => ownsRow_frame (h.q c hc) (fun g e => Below.heap_setCell _ _ _ _ (fun e2 => (h.qne c hc).1 (by rw [← show g = gx from e2]; exact e))), h.qne, h.apart, h.gne, h.vbw, h.inW, fun b q => by rw [hz]; exact h.live b q⟩
  · rw [upd1_ne (by omega)]; exact h.f0
  · rw [upd1_ne (by omega)]; exact h.f1
  · rw [upd1_ne (by omega)]; exact h.f2
end

theorem kw_set (w : World) {W : Nat → Prop} {b i : Nat} (v : Value) (hb : W b) : Kw w (w.setCell ⟨b, i, none⟩ v) W :=
  ⟨rfl, rfl, rfl, by simp [World.setCell], fun c _ q => Below.heap_setCell w ⟨b, i, none⟩ v c (fun e => q (by rw [show c = b from e]; exact hb))⟩

set_option maxRecDepth 4000 in
set_option maxHeartbeats 400000 in
theorem tick_none (W : Nat → Prop) (B gx N : Nat) (Q : Nat → List UInt8) (tk wd : Nat) (L : List UInt8) (n : Nat) (closed : Bool) (w : World) (h : MemW W B w gx N Q tk wd L n closed) (hs : sumL N Q = 0) :
    Calls Tryz.prog 20 #[.pointer (some ⟨gx, 0, none⟩)] w fun e w' => e = .returned (.tuple #[]) ∧ w' = w := by
  have HW : Hid (_) := waits_any W B gx N Q tk wd L n closed w h
  rw [hs] at HW
  clear h
  go_enter Tryz.func20, Tryz.ntmps20
  go_wp2_with fail
  refine Calls.mono HW.out ?_
  rintro e w1 ⟨rfl, rfl⟩
  go_wp2
  refine bodyPost_ret (results_none rfl _ _ _) rfl ?_
  exact ⟨rfl, rfl⟩

/-- What Tick leaves, where bytes wait. -/
def TckP (W : Nat → Prop) (B : Nat) (w : World) (gx N : Nat) (Q : Nat → List UInt8) (tk wd : Nat) (L : List UInt8) (n : Nat) (e : Ending) (w' : World) : Prop :=
  e = .returned (.tuple #[]) ∧ Kw w w' W ∧ (wd < 2 → MemW (WN W w.heap.size w'.heap.size) B w' gx N Q tk (wd + 1) L n false) ∧
    (wd = 2 → ∃ T S : ByteArray, Cuts N T.data.toList (fun c => if c < N then Q c else []) ∧ T.size ≤ 3 * sumL N Q ∧ PieceOk T S ∧ MemW (WN W w.heap.size w'.heap.size) B w' gx N (fun _ => []) tk 0 (L ++ S.data.toList) (n + S.size) false)

set_option maxRecDepth 4000 in
set_option maxHeartbeats 400000 in
theorem tick_some (W : Nat → Prop) (B gx N : Nat) (Q : Nat → List UInt8) (tk wd : Nat) (L : List UInt8) (n : Nat) (w : World) (h : MemW W B w gx N Q tk wd L n false) (hs : 0 < sumL N Q) (h1 : 1 ≤ N) (hq : sumL N Q ≤ 1600) (hB : B ≤ w.heap.size) (hn : n ≤ 10000000000000) (hwd : wd ≤ 2) :
    Calls Tryz.prog 20 #[.pointer (some ⟨gx, 0, none⟩)] w (TckP W B w gx N Q tk wd L n) := by
  have HW : Hid (_) := waits_any W B gx N Q tk wd L n false w h
  rw [decide_eq_true hs] at HW
  have c2 : w.cell? ⟨gx, 2, none⟩ = some (.int .i64 (wd : Nat)) ∧ w.frozen? ⟨gx, 2, none⟩ = false := by
    obtain ⟨f, gw, fq, vb, off, lr, M, h, hd, hml⟩ := h
    exact ⟨by rw [h.buf.row.cell (i := 2) (by omega), h.f2], h.buf.row.frozen 2⟩
  have hgx := h.few.2
  have h2 : MemW W B (w.setCell ⟨gx, 2, none⟩ (.int .i64 ((wd + 1 : Nat) : Int))) gx N Q tk (wd + 1) L n false := by
    obtain ⟨f, gw, fq, vb, off, lr, M, h, hd, hml⟩ := h
    exact ⟨_, gw, fq, vb, off, lr, M, h.setWd (wd + 1), hd, hml⟩
  have k2 : Kw w (w.setCell ⟨gx, 2, none⟩ (.int .i64 ((wd + 1 : Nat) : Int))) W := kw_set w _ hgx
  have z2 : (w.setCell ⟨gx, 2, none⟩ (.int .i64 ((wd + 1 : Nat) : Int))).heap.size = w.heap.size := by simp [World.setCell]
  have eI : ((wd + 1 : Nat) : Int) = (wd : Int) + 1 := by omega
  rw [eI] at h2 k2 z2
  obtain ⟨c2, f2⟩ := c2
  have HF : Hid (_) := flush_open W B gx N Q tk (wd + 1) L n _ h2 h1 hq (by rw [z2]; exact hB) hn
  have HP : Hid (∀ e w', (wd < 2 ∧ w' = w.setCell ⟨gx, 2, none⟩ (.int .i64 ((wd : Int) + 1)) ∨ wd = 2 ∧ FluP W B (w.setCell ⟨gx, 2, none⟩ (.int .i64 ((wd : Int) + 1))) gx N Q tk L n e w') → TckP W B w gx N Q tk wd L n (.returned (.tuple #[])) w') := fun e w' q => by
    rcases q with ⟨q, rfl⟩ | ⟨q, T, S, _, hcu, hsz, hS, hk, hm⟩
    · refine ⟨rfl, k2, fun _ => ?_, fun e2 => by omega⟩
      rw [z2]
      exact h2.wide (fun b q => Or.inl q) (fun b q => by
        rcases q with q | q
        · exact h2.live b q
        · omega)
    · rw [z2] at hm
      exact ⟨rfl, k2.trans hk (fun _ _ q => q), fun e2 => by omega, fun _ => ⟨T, S, hcu, hsz, hS, hm⟩⟩
  clear h h2 k2 z2 eI
  generalize hP : TckP W B w gx N Q tk wd L n = P at HP ⊢
  clear hP
  by_cases hw2 : wd < 2
  · have d1 : ((wd : Int) + 1 == 3) = false := by rw [beq_eq_false_iff_ne]; omega
    go_enter Tryz.func20, Tryz.ntmps20
    go_wp2_with fail
    refine Calls.mono HW.out ?_
    rintro e w1 ⟨rfl, rfl⟩
    have P0 := HP.out (.returned (.tuple #[])) _ (Or.inl ⟨hw2, rfl⟩)
    clear HF HP HW
    go_wp2
    go_end0
    exact P0
  · obtain rfl : wd = 2 := by omega
    have e3 : ((2 : Nat) : Int) + 1 = 3 := rfl
    rw [e3] at HF HP
    go_enter Tryz.func20, Tryz.ntmps20
    go_wp2_with fail
    refine Calls.mono HW.out ?_
    rintro e w1 ⟨rfl, rfl⟩
    clear HW e3 hw2
    go_wp2_with fail
    refine Calls.mono HF.out ?_
    intro e w2 hp
    obtain ⟨v, rfl⟩ : ∃ v, e = .returned v := by
      obtain ⟨T, S, he, _⟩ := hp
      exact ⟨_, he⟩
    have P0 := HP.out _ w2 (Or.inr ⟨by trivial, hp⟩)
    clear HF HP hp
    go_wp2
    go_end0
    exact P0

set_option maxRecDepth 4000 in
set_option maxHeartbeats 400000 in
theorem close_closed (W : Nat → Prop) (B gx N : Nat) (Q : Nat → List UInt8) (tk wd : Nat) (L : List UInt8) (n : Nat) (w : World) (h : MemW W B w gx N Q tk wd L n true) :
    Calls Tryz.prog 12 #[.pointer (some ⟨gx, 0, none⟩)] w fun e w' => e = .returned (.int .i64 5) ∧ w' = w := by
  obtain ⟨f, gw, fq, vb, off, lr, M, h, hd, hml⟩ := h
  have c6 := h.buf.row.cell (i := 6) (by omega)
  rw [h.f6] at c6
  clear h hd hml
  go_enter Tryz.func12, Tryz.ntmps12
  go_wp2
  go_ret
  exact ⟨rfl, rfl⟩

/-- What Close leaves. -/
def CloP (W : Nat → Prop) (B : Nat) (w : World) (gx N : Nat) (Q : Nat → List UInt8) (tk : Nat) (L : List UInt8) (n : Nat) (e : Ending) (w' : World) : Prop :=
  ∃ T S : ByteArray, e = .returned (.int .i64 0) ∧ Cuts N T.data.toList (fun c => if c < N then Q c else []) ∧ T.size ≤ 3 * sumL N Q ∧ EndOk T S ∧ Kw w w' W ∧ MemW (WN W w.heap.size w'.heap.size) B w' gx N (fun _ => []) tk 0 (L ++ S.data.toList) (n + S.size) true

set_option maxRecDepth 4000 in
set_option maxHeartbeats 1000000 in
theorem close_open (W : Nat → Prop) (B gx N : Nat) (Q : Nat → List UInt8) (tk wd : Nat) (L : List UInt8) (n : Nat) (w : World) (h : MemW W B w gx N Q tk wd L n false) (h1 : 1 ≤ N) (hq : sumL N Q ≤ 1600) (hB : B ≤ w.heap.size) (hn : n ≤ 10000000000000) :
    Calls Tryz.prog 12 #[.pointer (some ⟨gx, 0, none⟩)] w (CloP W B w gx N Q tk L n) := by
  have HC : Hid (∀ wz : World, wz.heap = w.heap → wz.os = w.os → wz.tape = w.tape → wz.output = w.output → Calls Tryz.prog 33 #[.pointer (some ⟨gx, 0, none⟩)] wz fun e w1 => ∃ T : ByteArray, e = .returned (.string T) ∧ Cuts N T.data.toList (fun c => if c < N then Q c else []) ∧ T.size ≤ 3 * sumL N Q ∧ Kw w w1 W ∧ MemW (WN W w.heap.size w1.heap.size) B w1 gx N (fun _ => []) tk 0 L n false) := fun wz hh ho ht hp => by
    refine (wcut_any W B gx N Q tk wd L n false wz (h.same hh) h1 hq (by rw [hh]; exact hB)).mono ?_
    rintro e w1 ⟨T, he, hcu, hsz, hk, hm⟩
    exact ⟨T, he, hcu, hsz, hk.same hh ho ht hp, by rw [← hh]; exact hm⟩
  have c6 : w.cell? ⟨gx, 6, none⟩ = some (.bool false) := by
    obtain ⟨f, gw, fq, vb, off, lr, M, h, hd, hml⟩ := h
    rw [h.buf.row.cell (i := 6) (by omega), h.f6]
  have HX : Hid (∀ (w3 : World) (T S : ByteArray), Cuts N T.data.toList (fun c => if c < N then Q c else []) → T.size ≤ 3 * sumL N Q → EndOk T S → Kw w w3 W → MemW (WN W w.heap.size w3.heap.size) B w3 gx N (fun _ => []) tk 0 (L ++ S.data.toList) (n + S.size) false → w3.cell? ⟨gx, 6, none⟩ = some (.bool false) ∧ w3.frozen? ⟨gx, 6, none⟩ = false ∧ CloP W B w gx N Q tk L n (.returned (.int .i64 0)) (w3.setCell ⟨gx, 6, none⟩ (.bool true))) := fun w3 T S hcu hsz hS k3 h3 => by
    have hgx := h.few.2
    have z3 : (w3.setCell ⟨gx, 6, none⟩ (.bool true)).heap.size = w3.heap.size := by simp [World.setCell]
    obtain ⟨f, gw, fq, vb, off, lr, M, g, hd, hml⟩ := h3
    refine ⟨by rw [g.buf.row.cell (i := 6) (by omega), g.f6], g.buf.row.frozen 6, T, S, rfl, hcu, hsz, hS, k3.trans (kw_set w3 (.bool true) hgx) (fun _ _ q => q), ?_⟩
    rw [z3]
    exact ⟨_, gw, fq, vb, off, lr, M, g.setShut, hd, hml⟩
  generalize hP : CloP W B w gx N Q tk L n = P at HX ⊢
  clear h hP
  go_enter Tryz.func12, Tryz.ntmps12
  go_wp2_with fail
  go_region_with (first
    | (go_at_call 33; refine Calls.mono (HC.out _ (by rfl) (by rfl) (by rfl) (by rfl)) ?_; rintro e w1 ⟨T, rfl, hcu, hsz, k1, h2⟩)
    | (go_at_call 32; refine (write_any T _ (by omega)).mono ?_; rintro e w2 ⟨S, _, hS, rfl, hb⟩)
    | (go_at_call 31; refine Calls.mono (flush_mid k1 h2 (by rfl) (by rfl) (by rfl) (by rfl) hb (by rfl) (by rfl) (by rfl) (by rfl) hB hS.one (by have := hS.len; omega)) ?_; rintro e w3 ⟨rfl, k3, h3⟩))
  all_goals
    obtain ⟨y0, y1, P0⟩ := HX.out w3 T S hcu hsz hS k3 h3
    clear hcu hsz hS k1 h2 hb k3 h3 HC HX
    go_wp2
    exact P0

end Go.Proofs.YtecddphahiadlaaGreatDoor

/- What is known of a line of the statements: plain reckoning. -/
namespace Go.Proofs.YtecddphahiadlaaGreatDoor
open Go.RowKit

/-- X are all bytes that the writer sent, by j flushes at most; they bring P. -/
structure LnI (N : Nat) (k : Lk) (Q : Nat → List UInt8) (tk : Nat) (L : List UInt8) (n : Nat) (closed : Bool) (A : ByteArray) (R : Nat → List UInt8) (X : ByteArray) (P : Nat → List UInt8) (j : Nat) : Prop where
  total : k.total = tk
  most : tk ≤ 1500
  sent : sumL N P + sumL N Q ≤ tk
  few : ∀ c, c < N → (Q c).length ≤ 200
  wt : ∀ c, c < N → (Q c).length ≤ k.waiting c ∧ k.waiting c ≤ 200 + tk
  taken : ∀ c, c < N → (k.taken c).data.toList = P c ++ Q c
  read : ∀ c, c < N → (k.read c).data.toList = R c
  wire : k.wire = A
  all : A.data.toList ++ L = X.data.toList
  parts : closed = false → Pieces N X P
  full : Sent N X P closed
  shut : closed = true → ∀ c, c < N → Q c = []
  long : X.size ≤ 3 * sumL N P + 5 * j
  nn : n ≤ X.size

theorem sumL_at : ∀ (N : Nat) (Q : Nat → List UInt8) (c : Nat), c < N → (Q c).length ≤ sumL N Q
  | N + 1, Q, c, hc => by
    simp only [sumL]
    by_cases e : c = N
    · subst e; omega
    · have := sumL_at N Q c (by omega); omega

section
variable {N : Nat} {k : Lk} {Q : Nat → List UInt8} {tk : Nat} {L : List UInt8} {n : Nat} {closed : Bool} {A : ByteArray} {R : Nat → List UInt8} {X : ByteArray} {P : Nat → List UInt8} {j : Nat}

theorem lnI_new (N : Nat) : LnI N lk0 (fun _ => []) 0 [] 0 false .empty (fun _ => []) .empty (fun _ => []) 0 :=
  ⟨rfl, by omega, by rw [sumL_nil]; omega, fun _ _ => by simp, fun _ _ => ⟨by simp, by show 0 ≤ 200 + 0; omega⟩, fun _ _ => rfl, fun _ _ => rfl, rfl, rfl, fun _ => pieces_nil N, (pieces_nil N).full, fun q => by simp at q, by show 0 ≤ _; omega, by omega⟩

theorem LnI.taken_few (h : LnI N k Q tk L n closed A R X P j) (c : Nat) (hc : c < N) : (k.taken c).size ≤ 1500 := by
  rw [size_list, h.taken c hc, List.length_append]
  have := sumL_at N P c hc
  have := sumL_at N Q c hc
  have := h.sent
  have := h.most
  omega
theorem LnI.size (h : LnI N k Q tk L n closed A R X P j) : X.size ≤ 4500 + 5 * j ∧ A.size + L.length = X.size := by
  have := h.long
  have := h.sent
  have := h.most
  refine ⟨by omega, ?_⟩
  have e := congrArg List.length h.all
  rw [List.length_append, ← size_list, ← size_list] at e
  exact e

/-- Bytes are taken. -/
theorem LnI.wrote (h : LnI N k Q tk L n false A R X P j) (c : Nat) (hc : c < N) (S : ByteArray) (m : Nat) (hm : m = takenN (Q c).length tk S.size) :
    LnI N (k.wrote c S m) (fun d => if d = c then Q c ++ S.data.toList.take m else Q d) (tk + m) L n false A R X P j := by
  have hm1 : m ≤ S.size := by rw [hm]; unfold takenN; omega
  have hm2 : m ≤ 200 - (Q c).length := by rw [hm]; unfold takenN; omega
  have hm3 : m ≤ 1500 - tk := by rw [hm]; unfold takenN; omega
  have hl : (S.data.toList.take m).length = m := by rw [List.length_take, ← size_list]; omega
  have h1 := h.most
  have h2 := h.sent
  have h3 := h.few c hc
  refine ⟨by show k.total + m = _; rw [h.total], by omega, ?_, fun d hd => ?_, fun d hd => ?_, fun d hd => ?_, h.read, h.wire, h.all, h.parts, h.full, fun q => by simp at q, h.long, h.nn⟩
  · rw [sumL_upd, if_pos hc, hl]; omega
  · by_cases e : d = c
    · subst e
      simp only [if_true]
      rw [List.length_append, hl]
      omega
    · simp only [if_neg e]; exact h.few d hd
  · have q := h.wt d hd
    by_cases e : d = c
    · subst e
      refine ⟨?_, ?_⟩
      · simp only [Lk.wrote, if_true]
        rw [List.length_append, hl]
        omega
      · simp only [Lk.wrote, if_true]; omega
    · refine ⟨?_, ?_⟩
      · simp only [Lk.wrote, if_neg e]; exact q.1
      · simp only [Lk.wrote, if_neg e]; omega
  · by_cases e : d = c
    · subst e
      simp only [Lk.wrote, if_true]
      rw [list_app, h.taken d hd, take_list, List.append_assoc]
    · simp only [Lk.wrote, if_neg e]
      exact h.taken d hd

/-- What waits is sent. -/
theorem LnI.flushed (h : LnI N k Q tk L n false A R X P j) {T S : ByteArray} (hc : Cuts N T.data.toList (fun c => if c < N then Q c else [])) (hs : T.size ≤ 3 * sumL N Q) (hp : PieceOk T S) :
    LnI N k (fun _ => []) tk (L ++ S.data.toList) (n + S.size) false A R (X ++ S) (fun c => P c ++ if c < N then Q c else []) (j + 1) := by
  have h1 := h.most
  have h2 := h.sent
  have hpl := hp.len
  have hlg := h.long
  have hnn := h.nn
  have hP := (h.parts rfl).app hc hs hp (by omega)
  refine ⟨h.total, h.most, by rw [sumL_app, sumL_nil]; omega, fun _ _ => by simp, fun d hd => ⟨by simp, (h.wt d hd).2⟩, fun d hd => ?_, h.read, h.wire, ?_, fun _ => hP, hP.full, fun q => by simp at q, ?_, by rw [ByteArray.size_append]; omega⟩
  · rw [if_pos hd, List.append_nil]; exact h.taken d hd
  · rw [← List.append_assoc, h.all, list_app]
  · rw [sumL_app, ByteArray.size_append]
    omega

/-- The stream is ended. -/
theorem LnI.ended (h : LnI N k Q tk L n false A R X P j) {T S : ByteArray} (hc : Cuts N T.data.toList (fun c => if c < N then Q c else [])) (hs : T.size ≤ 3 * sumL N Q) (hp : EndOk T S) :
    LnI N k (fun _ => []) tk (L ++ S.data.toList) (n + S.size) true A R (X ++ S) (fun c => P c ++ if c < N then Q c else []) (j + 1) := by
  have h1 := h.most
  have h2 := h.sent
  have hpl := hp.len
  have hlg := h.long
  have hnn := h.nn
  have hP := (h.parts rfl).ends hc hs hp (by omega)
  refine ⟨h.total, h.most, by rw [sumL_app, sumL_nil]; omega, fun _ _ => by simp, fun d hd => ⟨by simp, (h.wt d hd).2⟩, fun d hd => ?_, h.read, h.wire, ?_, fun q => by simp at q, hP, fun _ _ _ => rfl, ?_, by rw [ByteArray.size_append]; omega⟩
  · rw [if_pos hd, List.append_nil]; exact h.taken d hd
  · rw [← List.append_assoc, h.all, list_app]
  · rw [sumL_app, ByteArray.size_append]
    omega

/-- What is known of the room is set anew. -/
theorem LnI.waits (h : LnI N k Q tk L n closed A R X P j) (f : Nat → Nat) (hf : ∀ c, c < N → (Q c).length ≤ f c ∧ f c ≤ 200) : LnI N { k with waiting := f } Q tk L n closed A R X P j :=
  ⟨h.total, h.most, h.sent, h.few, fun c hc => ⟨(hf c hc).1, by have := (hf c hc).2; show f c ≤ _; omega⟩, h.taken, h.read, h.wire, h.all, h.parts, h.full, h.shut, h.long, h.nn⟩

/-- Bytes go over. -/
theorem LnI.carried (h : LnI N k Q tk L n closed A R X P j) (m : Nat) :
    ansF N A = 0 ∧ ansF N (A ++ ⟨(L.take m).toArray⟩) = 0 ∧ LnI N { k with wire := A ++ ⟨(L.take m).toArray⟩ } Q tk (L.drop m) n closed (A ++ ⟨(L.take m).toArray⟩) R X P j := by
  have et : (⟨(L.take m).toArray⟩ : ByteArray).data.toList = L.take m := rfl
  have ha : (A ++ ⟨(L.take m).toArray⟩ : ByteArray).data.toList ++ L.drop m = X.data.toList := by
    rw [list_app, et, List.append_assoc, List.take_append_drop]; exact h.all
  have hx : X = A ++ ⟨(L.take m).toArray⟩ ++ ⟨(L.drop m).toArray⟩ := bytes_ext (by rw [list_app]; exact ha.symm)
  have p2 : Pfx (A ++ ⟨(L.take m).toArray⟩) X := by
    have := pfx_app (A ++ ⟨(L.take m).toArray⟩) ⟨(L.drop m).toArray⟩
    rw [← hx] at this
    exact this
  have p1 : Pfx A X := by
    have := pfx_app A (⟨(L.take m).toArray⟩ ++ ⟨(L.drop m).toArray⟩)
    rw [← bytes_assoc, ← hx] at this
    exact this
  exact ⟨(h.full.part p1).1, (h.full.part p2).1, ⟨h.total, h.most, h.sent, h.few, h.wt, h.taken, h.read, rfl, ha, h.parts, h.full, h.shut, h.long, h.nn⟩⟩

theorem LnI.pfx (h : LnI N k Q tk L n closed A R X P j) : Pfx A X := by
  have hx : X = A ++ ⟨L.toArray⟩ := bytes_ext (by rw [list_app]; exact h.all.symm)
  rw [hx]
  exact pfx_app A ⟨L.toArray⟩

/-- Bytes are read. -/
theorem LnI.readC (h : LnI N k Q tk L n closed A R X P j) (c m : Nat) (hc : c < N) {z : Sp} (hz : gotF N A = preR R z) :
    LnI N { k with read := fun d => if d = c then k.read c ++ ⟨(nextF N A R c m).toArray⟩ else k.read d } Q tk L n closed A (readR R c (nextF N A R c m)) X P j ∧ begB (k.read c ++ ⟨(nextF N A R c m).toArray⟩) (k.taken c) = true := by
  have et : (⟨(nextF N A R c m).toArray⟩ : ByteArray).data.toList = nextF N A R c m := rfl
  have hl : (k.read c ++ ⟨(nextF N A R c m).toArray⟩ : ByteArray).data.toList = R c ++ nextF N A R c m := by rw [list_app, et, h.read c hc]
  refine ⟨⟨h.total, h.most, h.sent, h.few, h.wt, h.taken, fun d hd => ?_, h.wire, h.all, h.parts, h.full, h.shut, h.long, h.nn⟩, ?_⟩
  · unfold readR
    by_cases e : d = c
    · subst e
      simp only [if_true]
      exact hl
    · simp only [if_neg e]
      exact h.read d hd
  · unfold begB
    rw [decide_eq_true_iff, hl, h.taken c hc]
    have hg := (h.full.part h.pfx).2 c
    rw [hz] at hg
    have hn := next_of hz c m
    rw [← hn]
    have h1 : R c ++ (z.ch c).take m <+: R c ++ z.ch c := (List.prefix_append_right_inj _).2 (List.take_prefix _ _)
    exact (h1.trans hg).trans (List.prefix_append _ _)

/-- All of it is read. -/
theorem LnI.readAll (h : LnI N k Q tk [] n closed A R X P j) (hq : ∀ c, c < N → Q c = []) (c m : Nat) (hc : c < N) (hm : 5000 ≤ m) {z : Sp} (hz : gotF N A = preR R z) :
    k.read c ++ ⟨(nextF N A R c m).toArray⟩ = k.taken c := by
  have hx : A = X := bytes_ext (by have := h.all; rw [List.append_nil] at this; exact this)
  have hg : gotF N A = ⟨[], P⟩ := by rw [hx]; exact h.full.whole
  have et : (⟨(nextF N A R c m).toArray⟩ : ByteArray).data.toList = nextF N A R c m := rfl
  apply bytes_ext
  rw [list_app, et, h.read c hc, h.taken c hc, hq c hc, List.append_nil]
  have hn := next_of hz c m
  have e1 : (preR R z).ch c = P c := by rw [← hz, hg]
  have e2 : R c ++ z.ch c = P c := e1
  have hlen := congrArg List.length e2
  rw [List.length_append] at hlen
  have h1 := sumL_at N P c hc
  have h2 := h.sent
  have h3 := h.most
  rw [← hn, List.take_of_length_le (by omega), e2]

/-- It is not at its end, until it is closed. -/
theorem LnI.alive (h : LnI N k Q tk L n false A R X P j) : (runF A).why = 2 := by
  rcases run_mono h.pfx with e | e
  · rw [e]; exact h.full.more rfl
  · exact e.1
end

end Go.Proofs.YtecddphahiadlaaGreatDoor

/- One line of the statements, with all that it has made. -/
namespace Go.Proofs.YtecddphahiadlaaGreatDoor
open Go.RowKit

/-- A line, made since w0. -/
def MLn (w0 w : World) (gl gw gr N : Nat) (k : Lk) (Q : Nat → List UInt8) (tk wd : Nat) (L : List UInt8) (n : Nat) (closed : Bool) (A : ByteArray) (R : Nat → List UInt8) : Prop :=
  ∃ Ww Wr, MemL Ww Wr w0.heap.size w gl gw gr N k Q tk wd L n closed A R ∧ (∀ b, LB gl Ww Wr b → w0.heap.size ≤ b) ∧ Below w0.heap.size w0 w

theorem Kw.onto {w0 w w' : World} {W : Nat → Prop} (h : Below w0.heap.size w0 w) (hk : Kw w w' W) (hW : ∀ b, W b → w0.heap.size ≤ b) : Below w0.heap.size w0 w' :=
  ⟨hk.os.trans h.os, hk.tape.trans h.tape, hk.output.trans h.output, Nat.le_trans h.size hk.size, fun b hb => (hk.block b (by have := h.size; omega) (fun e => by have := hW b e; omega)).trans (h.block b hb)⟩

section
variable {w0 w : World} {gl gw gr N : Nat} {k : Lk} {Q : Nat → List UInt8} {tk wd : Nat} {L : List UInt8} {n : Nat} {closed : Bool} {A : ByteArray} {R : Nat → List UInt8}

theorem MLn.below (h : MLn w0 w gl gw gr N k Q tk wd L n closed A R) : Below w0.heap.size w0 w := by
  obtain ⟨Ww, Wr, h1, h2, h3⟩ := h
  exact h3
theorem MLn.few (h : MLn w0 w gl gw gr N k Q tk wd L n closed A R) : N ≤ 8 := by
  obtain ⟨Ww, Wr, h1, h2, h3⟩ := h
  exact h1.wr.few.1
theorem MLn.cell (h : MLn w0 w gl gw gr N k Q tk wd L n closed A R) (i : Nat) (hi : i < 29) : w.cell? ⟨gl, i, none⟩ = some (lnCell N gw gr k i) ∧ w.frozen? ⟨gl, i, none⟩ = false := by
  obtain ⟨Ww, Wr, h1, h2, h3⟩ := h
  exact h1.cell i hi
theorem MLn.got (h : MLn w0 w gl gw gr N k Q tk wd L n closed A R) : ∃ z, gotF N A = preR R z := by
  obtain ⟨Ww, Wr, h1, h2, h3⟩ := h
  rcases h1.rd with ⟨_, S, U, s, m, σ, vt, x, gc, fc, vf, v, z, _, ha⟩ | ⟨_, U, f, gc, fc, vf, v, t, z, _, _, ha⟩
  · exact ⟨z, by unfold gotF; rw [ha.got]⟩
  · exact ⟨z, ha⟩

/-- The writer, and what it leaves. -/
theorem MLn.writer (h : MLn w0 w gl gw gr N k Q tk wd L n closed A R) : ∃ Ww, MemW Ww w0.heap.size w gw N Q tk wd L n closed ∧
    ∀ w' Q' tk' wd' L' n' closed', Kw w w' Ww → MemW (WN Ww w.heap.size w'.heap.size) w0.heap.size w' gw N Q' tk' wd' L' n' closed' → MLn w0 w' gl gw gr N k Q' tk' wd' L' n' closed' A R := by
  obtain ⟨Ww, Wr, h1, h2, h3⟩ := h
  refine ⟨Ww, h1.wr, fun w' Q' tk' wd' L' n' closed' hk hw => ⟨_, Wr, h1.writer hk hw, fun b q => ?_, hk.onto h3 (fun b q => h2 b (Or.inr (Or.inl q)))⟩⟩
  have := h3.size
  rcases q with q | (q | q) | q
  · exact h2 b (Or.inl q)
  · exact h2 b (Or.inr (Or.inl q))
  · omega
  · exact h2 b (Or.inr (Or.inr q))
/-- The reader, and what it leaves. -/
theorem MLn.reader (h : MLn w0 w gl gw gr N k Q tk wd L n closed A R) : ∃ Wr, MemR Wr w0.heap.size w gr N A R ∧
    ∀ w' A' R', Kw w w' Wr → MemR (WN Wr w.heap.size w'.heap.size) w0.heap.size w' gr N A' R' → MLn w0 w' gl gw gr N k Q tk wd L n closed A' R' := by
  obtain ⟨Ww, Wr, h1, h2, h3⟩ := h
  refine ⟨Wr, h1.rd, fun w' A' R' hk hr => ⟨Ww, _, h1.reader hk hr, fun b q => ?_, hk.onto h3 (fun b q => h2 b (Or.inr (Or.inr q)))⟩⟩
  have := h3.size
  rcases q with q | q | q | q
  · exact h2 b (Or.inl q)
  · exact h2 b (Or.inr (Or.inl q))
  · exact h2 b (Or.inr (Or.inr q))
  · omega
theorem MLn.know {k' : Lk} {i : Nat} {v : Value} (h : MLn w0 w gl gw gr N k Q tk wd L n closed A R) (hc : ∀ j, j < 29 → lnCell N gw gr k' j = if j = i then v else lnCell N gw gr k j) : MLn w0 (w.setCell ⟨gl, i, none⟩ v) gl gw gr N k' Q tk wd L n closed A R := by
  obtain ⟨Ww, Wr, h1, h2, h3⟩ := h
  exact ⟨Ww, Wr, h1.know i v hc, h2, ((Kw.refl w (LB gl Ww Wr)).set v (Or.inl rfl)).onto h3 h2⟩
theorem MLn.setRead (h : MLn w0 w gl gw gr N k Q tk wd L n closed A R) (c : Nat) (hc : c < 8) (x : ByteArray) : MLn w0 (w.setCell ⟨gl, 11 + c, none⟩ (.string x)) gl gw gr N { k with read := fun d => if d = c then x else k.read d } Q tk wd L n closed A R := h.know (lnCell_read N gw gr k c hc x)
theorem MLn.setWaiting (h : MLn w0 w gl gw gr N k Q tk wd L n closed A R) (c : Nat) (hc : c < 8) (x : Nat) : MLn w0 (w.setCell ⟨gl, 20 + c, none⟩ (.int .i64 (x : Nat))) gl gw gr N { k with waiting := fun d => if d = c then x else k.waiting d } Q tk wd L n closed A R := h.know (lnCell_waiting N gw gr k c hc x)
theorem MLn.setWire (h : MLn w0 w gl gw gr N k Q tk wd L n closed A R) (x : ByteArray) : MLn w0 (w.setCell ⟨gl, 28, none⟩ (.string x)) gl gw gr N { k with wire := x } Q tk wd L n closed A R := h.know (lnCell_wire N gw gr k x)

/-- It is made. -/
theorem mln_new {N : Nat} {c : Int} (h1 : -9223372036854775808 ≤ c) (h2 : c ≤ 9223372036854775807) (hN : (N : Int) = 1 + pickN c 8) (w : World) :
    Calls Tryz.prog 8 #[.int .i64 c] w fun e w' => ∃ gl gw gr, e = .returned (.pointer (some ⟨gl, 0, none⟩)) ∧ MLn w w' gl gw gr N lk0 (fun _ => []) 0 0 [] 0 false .empty (fun _ => []) := by
  refine (line_any w.heap.size N c w h1 h2 hN (Nat.le_refl _)).mono ?_
  rintro e w' ⟨gl, gw, gr, Ww, Wr, he, hb, hm, hl⟩
  exact ⟨gl, gw, gr, he, Ww, Wr, hm, hl, hb⟩

theorem MLn.wire (h : MLn w0 w gl gw gr N k Q tk wd L n closed A R) (most : Int) (hn : n ≤ 140737488400000) (hm : most ≤ 9223372036854775807) (hm0 : -9223372036854775808 ≤ most) :
    Calls Tryz.prog 19 #[.pointer (some ⟨gw, 0, none⟩), .int .i64 most] w fun e w' => e = .returned (.string ⟨(L.take most.toNat).toArray⟩) ∧ MLn w0 w' gl gw gr N k Q tk wd (L.drop most.toNat) n closed A R := by
  obtain ⟨Ww, hw, hg⟩ := h.writer
  refine (wire_any Ww w0.heap.size gw N Q tk wd L n closed most w hw hn hm hm0).mono ?_
  rintro e w' ⟨he, hk, hm⟩
  exact ⟨he, hg _ _ _ _ _ _ _ hk hm⟩
theorem MLn.flush (h : MLn w0 w gl gw gr N k Q tk wd L n false A R) (h1 : 1 ≤ N) (hq : sumL N Q ≤ 1600) (hn : n ≤ 10000000000000) :
    Calls Tryz.prog 14 #[.pointer (some ⟨gw, 0, none⟩)] w fun e w' => ∃ T S : ByteArray, e = .returned (.int .i64 0) ∧ Cuts N T.data.toList (fun c => if c < N then Q c else []) ∧ T.size ≤ 3 * sumL N Q ∧ PieceOk T S ∧ MLn w0 w' gl gw gr N k (fun _ => []) tk 0 (L ++ S.data.toList) (n + S.size) false A R := by
  obtain ⟨Ww, hw, hg⟩ := h.writer
  refine (flush_open Ww w0.heap.size gw N Q tk wd L n w hw h1 hq h.below.size hn).mono ?_
  rintro e w' ⟨T, S, he, hc, ht, hp, hk, hm⟩
  exact ⟨T, S, he, hc, ht, hp, hg _ _ _ _ _ _ _ hk hm⟩
theorem MLn.flushShut (h : MLn w0 w gl gw gr N k Q tk wd L n true A R) :
    Calls Tryz.prog 14 #[.pointer (some ⟨gw, 0, none⟩)] w fun e w' => e = .returned (.int .i64 5) ∧ w' = w := by
  obtain ⟨Ww, hw, hg⟩ := h.writer
  exact flush_closed Ww w0.heap.size gw N Q tk wd L n w hw
theorem MLn.feed (h : MLn w0 w gl gw gr N k Q tk wd L n closed A R) (T : ByteArray) (ha : ansF N A = 0) (hA : A.size + T.size ≤ 140737488400000) (h0 : 1 < w0.heap.size) (hord : OrdIn w0 1) :
    Calls Tryz.prog 53 #[.pointer (some ⟨gr, 0, none⟩), .string T] w fun e w' => e = .returned (.int .i64 (ansF N (A ++ T) : Nat)) ∧ MLn w0 w' gl gw gr N k Q tk wd L n closed (A ++ T) R := by
  obtain ⟨Wr, hr, hg⟩ := h.reader
  refine (mfeed_any Wr w0.heap.size gr N A T R w hr ha h.below.size hA h0 (hord.later h.below h0)).mono ?_
  rintro e w' ⟨he, hk, hm⟩
  exact ⟨he, hg _ _ _ hk hm⟩
theorem MLn.done (h : MLn w0 w gl gw gr N k Q tk wd L n closed A R) :
    Calls Tryz.prog 10 #[.pointer (some ⟨gr, 0, none⟩)] w fun e w' => e = .returned (.bool (decide (ansF N A = 0 ∧ (runF A).why = 0))) ∧ w' = w := by
  obtain ⟨Wr, hr, _⟩ := h.reader
  exact mdone_any Wr w0.heap.size gr N A R w hr
theorem MLn.readC (h : MLn w0 w gl gw gr N k Q tk wd L n closed A R) (c : Nat) (hc : c < N) (most : Int) (hm : most ≤ 9223372036854775807) (hm0 : -9223372036854775808 ≤ most) :
    Calls Tryz.prog 48 #[.pointer (some ⟨gr, 0, none⟩), .int .i64 (c : Int), .int .i64 most] w fun e w' => e = .returned (.tuple #[.string ⟨(nextF N A R c most.toNat).toArray⟩, .int .i64 0]) ∧ MLn w0 w' gl gw gr N k Q tk wd L n closed A (readR R c (nextF N A R c most.toNat)) := by
  obtain ⟨Wr, hr, hg⟩ := h.reader
  refine (mread_any Wr w0.heap.size gr N A R c most w hr hc hm hm0).mono ?_
  rintro e w' ⟨he, hk, hm⟩
  exact ⟨he, hg _ _ _ hk hm⟩
theorem MLn.write (h : MLn w0 w gl gw gr N k Q tk wd L n false A R) (c : Nat) (S : ByteArray) (hc : c < N) (hq : (Q c).length ≤ 200) (ht : tk ≤ 1500) (hS : S.size ≤ 140737488400000) :
    Calls Tryz.prog 11 #[.pointer (some ⟨gw, 0, none⟩), .int .i64 (c : Int), .string S] w fun e w' => e = .returned (.tuple #[.int .i64 (takenN (Q c).length tk S.size : Nat), .int .i64 0]) ∧ MLn w0 w' gl gw gr N k (fun d => if d = c then Q c ++ S.data.toList.take (takenN (Q c).length tk S.size) else Q d) (tk + takenN (Q c).length tk S.size) wd L n false A R := by
  obtain ⟨Ww, hw, hg⟩ := h.writer
  refine (write_open Ww w0.heap.size gw N Q tk wd L n c S w hw hc hq ht h.below.size hS).mono ?_
  rintro e w' ⟨he, hk, hm⟩
  exact ⟨he, hg _ _ _ _ _ _ _ hk hm⟩
theorem MLn.writeShut (h : MLn w0 w gl gw gr N k Q tk wd L n true A R) (c : Nat) (S : ByteArray) (hc : c < N) :
    Calls Tryz.prog 11 #[.pointer (some ⟨gw, 0, none⟩), .int .i64 (c : Int), .string S] w fun e w' => e = .returned (.tuple #[.int .i64 0, .int .i64 5]) ∧ w' = w := by
  obtain ⟨Ww, hw, hg⟩ := h.writer
  exact write_closed Ww w0.heap.size gw N Q tk wd L n c S w hw hc
theorem MLn.writes (h : MLn w0 w gl gw gr N k Q tk wd L n false A R) (ch : Int) (c : Nat) (S : ByteArray) (m : Nat)
    (h1 : -9223372036854775808 ≤ ch) (h2 : ch ≤ 9223372036854775807) (hN1 : 1 ≤ N) (hc : (c : Int) = pickN ch N) (hm : m = takenN (Q c).length tk S.size)
    (hq : (Q c).length ≤ 200) (ht : tk ≤ 1500) (htot : k.total = tk) (hwt : (Q c).length ≤ k.waiting c) (hwb : k.waiting c ≤ 5000) (htk : (k.taken c).size ≤ 5000) (hS : S.size ≤ 140737488400000) :
    Calls Tryz.prog 17 #[.pointer (some ⟨gl, 0, none⟩), .int .i64 ch, .string S] w fun e w' => e = .returned (.bool true) ∧ MLn w0 w' gl gw gr N (k.wrote c S m) (fun d => if d = c then Q c ++ S.data.toList.take m else Q d) (tk + m) wd L n false A R := by
  have hN := h.few
  obtain ⟨Ww, Wr, h3, h4, h5⟩ := h
  refine (writes_any Ww Wr w0.heap.size gl gw gr N k Q tk wd L n A R ch c S m w h3 h1 h2 hN1 hN hc hm hq ht htot hwt hwb htk h5.size hS).mono ?_
  rintro e w' ⟨he, hk, hm⟩
  refine ⟨he, _, Wr, hm, fun b q => ?_, hk.onto h5 h4⟩
  have := h5.size
  rcases q with q | (q | q) | q
  · exact h4 b (Or.inl q)
  · exact h4 b (Or.inr (Or.inl q))
  · omega
  · exact h4 b (Or.inr (Or.inr q))
theorem MLn.tickNone (h : MLn w0 w gl gw gr N k Q tk wd L n closed A R) (hs : sumL N Q = 0) :
    Calls Tryz.prog 20 #[.pointer (some ⟨gw, 0, none⟩)] w fun e w' => e = .returned (.tuple #[]) ∧ w' = w := by
  obtain ⟨Ww, hw, hg⟩ := h.writer
  exact tick_none Ww w0.heap.size gw N Q tk wd L n closed w hw hs
theorem MLn.tick (h : MLn w0 w gl gw gr N k Q tk wd L n false A R) (hs : 0 < sumL N Q) (h1 : 1 ≤ N) (hq : sumL N Q ≤ 1600) (hn : n ≤ 10000000000000) (hwd : wd ≤ 2) :
    Calls Tryz.prog 20 #[.pointer (some ⟨gw, 0, none⟩)] w fun e w' => e = .returned (.tuple #[]) ∧ (wd < 2 → MLn w0 w' gl gw gr N k Q tk (wd + 1) L n false A R) ∧
      (wd = 2 → ∃ T S : ByteArray, Cuts N T.data.toList (fun c => if c < N then Q c else []) ∧ T.size ≤ 3 * sumL N Q ∧ PieceOk T S ∧ MLn w0 w' gl gw gr N k (fun _ => []) tk 0 (L ++ S.data.toList) (n + S.size) false A R) := by
  obtain ⟨Ww, hw, hg⟩ := h.writer
  refine (tick_some Ww w0.heap.size gw N Q tk wd L n w hw hs h1 hq h.below.size hn hwd).mono ?_
  rintro e w' ⟨he, hk, ha, hb⟩
  refine ⟨he, fun q => hg _ _ _ _ _ _ _ hk (ha q), fun q => ?_⟩
  obtain ⟨T, S, hc, ht, hp, hm⟩ := hb q
  exact ⟨T, S, hc, ht, hp, hg _ _ _ _ _ _ _ hk hm⟩
theorem MLn.close (h : MLn w0 w gl gw gr N k Q tk wd L n false A R) (h1 : 1 ≤ N) (hq : sumL N Q ≤ 1600) (hn : n ≤ 10000000000000) :
    Calls Tryz.prog 12 #[.pointer (some ⟨gw, 0, none⟩)] w fun e w' => ∃ T S : ByteArray, e = .returned (.int .i64 0) ∧ Cuts N T.data.toList (fun c => if c < N then Q c else []) ∧ T.size ≤ 3 * sumL N Q ∧ EndOk T S ∧ MLn w0 w' gl gw gr N k (fun _ => []) tk 0 (L ++ S.data.toList) (n + S.size) true A R := by
  obtain ⟨Ww, hw, hg⟩ := h.writer
  refine (close_open Ww w0.heap.size gw N Q tk wd L n w hw h1 hq h.below.size hn).mono ?_
  rintro e w' ⟨T, S, he, hc, ht, hp, hk, hm⟩
  exact ⟨T, S, he, hc, ht, hp, hg _ _ _ _ _ _ _ hk hm⟩
theorem MLn.closeShut (h : MLn w0 w gl gw gr N k Q tk wd L n true A R) :
    Calls Tryz.prog 12 #[.pointer (some ⟨gw, 0, none⟩)] w fun e w' => e = .returned (.int .i64 5) ∧ w' = w := by
  obtain ⟨Ww, hw, hg⟩ := h.writer
  exact close_closed Ww w0.heap.size gw N Q tk wd L n w hw
theorem MLn.drew (h : MLn w0 w gl gw gr N k Q tk wd L n closed A R) : MLn w0 w.drew gl gw gr N k Q tk wd L n closed A R := by
  obtain ⟨Ww, Wr, h1, h2, h3⟩ := h
  exact ⟨Ww, Wr, h1.same rfl, h2, h3.drew⟩
theorem MLn.drewN (h : MLn w0 w gl gw gr N k Q tk wd L n closed A R) (q : Nat) : MLn w0 (w.drewN q) gl gw gr N k Q tk wd L n closed A R := by
  obtain ⟨Ww, Wr, h1, h2, h3⟩ := h
  exact ⟨Ww, Wr, h1.same rfl, h2, h3.os, h3.tape, h3.output, h3.size, h3.block⟩
end

end Go.Proofs.YtecddphahiadlaaGreatDoor
