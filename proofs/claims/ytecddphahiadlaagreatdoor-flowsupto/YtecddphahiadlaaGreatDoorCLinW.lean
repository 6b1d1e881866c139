import Derived.Test.YtecddphahiadlaaGreatDoorCWtrC
import Derived.Test.YtecddphahiadlaaGreatDoorCDefP
import Derived.Deep.RegionWith
import Derived.BigRegion
import Derived.Test.YtecddphahiadlaaGreatDoorCRdrY
import Derived.Test.YtecddphahiadlaaGreatDoorCLeaf
import Derived.Test.YtecddphahiadlaaGreatDoorCWtrW
/- The program's writer of frames: Flush. -/
namespace Go.Proofs.YtecddphahiadlaaGreatDoor
open Go.RowKit

theorem MemW.live {W : Nat → Prop} {B : Nat} {w : World} {gx N : Nat} {Q : Nat → List UInt8} {tk wd : Nat} {L : List UInt8} {n : Nat} {closed : Bool} (h : MemW W B w gx N Q tk wd L n closed) : ∀ b, W b → b < w.heap.size := by
  obtain ⟨f, gw, fq, vb, off, lr, M, h, hd⟩ := h
  exact h.live
theorem MemW.few {W : Nat → Prop} {B : Nat} {w : World} {gx N : Nat} {Q : Nat → List UInt8} {tk wd : Nat} {L : List UInt8} {n : Nat} {closed : Bool} (h : MemW W B w gx N Q tk wd L n closed) : N ≤ 8 ∧ W gx := by
  obtain ⟨f, gw, fq, vb, off, lr, M, h, hd⟩ := h
  exact ⟨h.few, h.inW.1⟩
/-- In more blocks. -/
theorem MemW.wide {W W' : Nat → Prop} {B : Nat} {w : World} {gx N : Nat} {Q : Nat → List UInt8} {tk wd : Nat} {L : List UInt8} {n : Nat} {closed : Bool} (h : MemW W B w gx N Q tk wd L n closed) (hW : ∀ b, W b → W' b) (hl : ∀ b, W' b → b < w.heap.size) : MemW W' B w gx N Q tk wd L n closed := by
  obtain ⟨f, gw, fq, vb, off, lr, M, h, hd⟩ := h
  exact ⟨f, gw, fq, vb, off, lr, M, ⟨h.f0, h.f1, h.f2, h.f6, h.few, h.buf, h.bnil, h.qrow, h.q, h.qne, h.apart, h.gne, h.vbw, ⟨hW _ h.inW.1, hW _ h.inW.2.1, fun g e => hW g (h.inW.2.2.1 g e), fun c hc g e => hW g (h.inW.2.2.2 c hc g e)⟩, hl⟩, hd⟩
/-- What lies elsewhere is made. -/
theorem MemW.below {W : Nat → Prop} {B : Nat} {w w' : World} {gx N : Nat} {Q : Nat → List UInt8} {tk wd : Nat} {L : List UInt8} {n : Nat} {closed : Bool} (h : MemW W B w gx N Q tk wd L n closed) (hb : Below w.heap.size w w') : MemW W B w' gx N Q tk wd L n closed :=
  h.frame hb.size (fun b q => hb.block b (h.live b q))

/-- Bytes more on the wire. -/
theorem MemW.wired {W : Nat → Prop} {B : Nat} {w w' : World} {gx N : Nat} {f : Nat → Value} {gw : Nat} {fq : Nat → Value} {Q : Nat → List UInt8} {tk wd : Nat} {vb : Value} {off : Nat} {lr : Int} {M : List UInt8} {closed : Bool} {L x : List UInt8} {n : Nat} {e : Ending}
    (h : Wt W B w gx N f gw fq Q tk wd vb off lr M closed) (hd : M.drop off = L) (hml : M.length ≤ n) (hp : WrP B w gx 3 95 7 f vb M off x e w') :
    e = .returned (.tuple #[.int .i64 (x.length : Nat), .nilIface]) ∧ Kw w w' W ∧ MemW (WN W w.heap.size w'.heap.size) B w' gx N Q tk wd (L ++ x) (n + x.length) closed := by
  obtain ⟨v', off', lr', M', he, hb, hdr, hle, hne⟩ := hp
  obtain ⟨h5, k5⟩ := h.setWire hb (fun q => absurd q hne)
  exact ⟨he, k5, ⟨_, _, _, _, _, _, _, h5, by rw [hdr, hd], by omega⟩⟩

/-- What Flush leaves. -/
def FluP (W : Nat → Prop) (B : Nat) (w : World) (gx N : Nat) (Q : Nat → List UInt8) (tk : Nat) (L : List UInt8) (n : Nat) (e : Ending) (w' : World) : Prop :=
  ∃ T S : ByteArray, e = .returned (.int .i64 0) ∧ Cuts N T.data.toList (fun c => if c < N then Q c else []) ∧ T.size ≤ 3 * sumL N Q ∧ PieceOk T S ∧ Kw w w' W ∧ MemW (WN W w.heap.size w'.heap.size) B w' gx N (fun _ => []) tk 0 (L ++ S.data.toList) (n + S.size) false

set_option maxRecDepth 4000 in
set_option maxHeartbeats 400000 in
theorem flush_closed (W : Nat → Prop) (B gx N : Nat) (Q : Nat → List UInt8) (tk wd : Nat) (L : List UInt8) (n : Nat) (w : World) (h : MemW W B w gx N Q tk wd L n true) :
    Calls Tryz.prog 14 #[.pointer (some ⟨gx, 0, none⟩)] w fun e w' => e = .returned (.int .i64 5) ∧ w' = w := by
  obtain ⟨f, gw, fq, vb, off, lr, M, h, hd, hml⟩ := h
  have c6 := h.buf.row.cell (i := 6) (by omega)
  rw [h.f6] at c6
  clear h hd hml
  go_enter Tryz.func14, Tryz.ntmps14
  go_wp2
  go_ret
  exact ⟨rfl, rfl⟩

/-- The same memory. -/
theorem MemW.same {W : Nat → Prop} {B : Nat} {w w' : World} {gx N : Nat} {Q : Nat → List UInt8} {tk wd : Nat} {L : List UInt8} {n : Nat} {closed : Bool} (h : MemW W B w gx N Q tk wd L n closed) (hh : w'.heap = w.heap) : MemW W B w' gx N Q tk wd L n closed :=
  h.frame (by rw [hh]; exact Nat.le_refl _) (fun b _ => by rw [hh])
theorem Kw.same {w wz w' : World} {W : Nat → Prop} (h : Kw wz w' W) (hh : wz.heap = w.heap) (ho : wz.os = w.os) (ht : wz.tape = w.tape) (hp : wz.output = w.output) : Kw w w' W :=
  ⟨h.os.trans ho, h.tape.trans ht, h.output.trans hp, by rw [← hh]; exact h.size, fun b hb hw => by rw [← hh] at hb ⊢; exact h.block b hb hw⟩

/-- What lies behind cut and Part, ahead of the wire. -/
theorem flush_mid {W : Nat → Prop} {B : Nat} {w w1 w1' w2 w3 : World} {gx N : Nat} {tk : Nat} {L : List UInt8} {n : Nat} {S : ByteArray} (k1 : Kw w w1 W) (h2 : MemW (WN W w.heap.size w1.heap.size) B w1 gx N (fun _ => []) tk 0 L n false)
    (hh : w1'.heap = w1.heap) (ho : w1'.os = w1.os) (ht : w1'.tape = w1.tape) (hp : w1'.output = w1.output) (hb : Below w1'.heap.size w1' w2) (hh3 : w3.heap = w2.heap) (ho3 : w3.os = w2.os) (ht3 : w3.tape = w2.tape) (hp3 : w3.output = w2.output)
    (hB : B ≤ w.heap.size) (hS1 : 1 ≤ S.size) (hn : n + S.size ≤ 17592186044416) :
    Calls Tryz.prog 31 #[.pointer (some ⟨gx, 3, none⟩), .string S] w3 fun e w' => e = .returned (.tuple #[.int .i64 (S.size : Nat), .nilIface]) ∧ Kw w w' W ∧ MemW (WN W w.heap.size w'.heap.size) B w' gx N (fun _ => []) tk 0 (L ++ S.data.toList) (n + S.size) false := by
  have k2 : Kw w1 w2 (WN W w.heap.size w1.heap.size) := (Kw.below hb).same hh ho ht hp
  have h3 : MemW (WN W w.heap.size w1.heap.size) B w3 gx N (fun _ => []) tk 0 L n false := ((h2.same hh).below hb).same hh3
  have hs1 := k1.size
  have hs2 := k2.size
  obtain ⟨f, gw, fq, vb, off, lr, M, h3, hd, hml⟩ := h3
  have e3 : w3.heap.size = w2.heap.size := by rw [hh3]
  refine (writeString_any B gx 3 95 7 f vb off lr M S w3 h3.buf h3.bnil (by omega) hS1 (by omega)).mono ?_
  intro e w' hpz
  obtain ⟨he, k3, h4⟩ := MemW.wired h3 hd hml hpz
  have k3' : Kw w2 w' (WN W w.heap.size w1.heap.size) := k3.same hh3 ho3 ht3 hp3
  have hs3 := k3'.size
  rw [← size_list] at he h4
  have kb : Kw w w2 W := k1.trans ⟨k2.os, k2.tape, k2.output, k2.size, fun b hb2 _ => by
    have := hb.block b (by rw [hh]; exact hb2)
    rw [hh] at this
    exact this⟩ (fun _ _ q => q)
  refine ⟨he, kb.trans k3' (fun b hb q => ?_), h4.wide (fun b q => ?_) (fun b q => ?_)⟩
  · rcases q with q | q
    · exact q
    · omega
  · rcases q with (q | q) | q
    · exact Or.inl q
    · exact Or.inr (by omega)
    · exact Or.inr (by omega)
  · rcases q with q | q
    · exact h4.live b (Or.inl (Or.inl q))
    · exact q.2

set_option maxRecDepth 4000 in
set_option maxHeartbeats 1000000 in
theorem flush_open (W : Nat → Prop) (B gx N : Nat) (Q : Nat → List UInt8) (tk wd : Nat) (L : List UInt8) (n : Nat) (w : World) (h : MemW W B w gx N Q tk wd L n false) (h1 : 1 ≤ N) (hq : sumL N Q ≤ 1600) (hB : B ≤ w.heap.size) (hn : n ≤ 10000000000000) :
    Calls Tryz.prog 14 #[.pointer (some ⟨gx, 0, none⟩)] w (FluP W B w gx N Q tk L n) := by
  have HC : Hid (∀ wz : World, wz.heap = w.heap → wz.os = w.os → wz.tape = w.tape → wz.output = w.output → Calls Tryz.prog 33 #[.pointer (some ⟨gx, 0, none⟩)] wz fun e w1 => ∃ T : ByteArray, e = .returned (.string T) ∧ Cuts N T.data.toList (fun c => if c < N then Q c else []) ∧ T.size ≤ 3 * sumL N Q ∧ Kw w w1 W ∧ MemW (WN W w.heap.size w1.heap.size) B w1 gx N (fun _ => []) tk 0 L n false) := fun wz hh ho ht hp => by
    refine (wcut_any W B gx N Q tk wd L n false wz (h.same hh) h1 hq (by rw [hh]; exact hB)).mono ?_
    rintro e w1 ⟨T, he, hcu, hsz, hk, hm⟩
    exact ⟨T, he, hcu, hsz, hk.same hh ho ht hp, by rw [← hh]; exact hm⟩
  have c6 : w.cell? ⟨gx, 6, none⟩ = some (.bool false) := by
    obtain ⟨f, gw, fq, vb, off, lr, M, h, hd, hml⟩ := h
    rw [h.buf.row.cell (i := 6) (by omega), h.f6]
  generalize hP : FluP W B w gx N Q tk L n = P
  have HP : Hid (FluP W B w gx N Q tk L n = P) := hP
  clear h hP
  go_enter Tryz.func14, Tryz.ntmps14
  go_wp2_with fail
  go_region_with (first
    | (go_at_call 33; refine Calls.mono (HC.out _ (by rfl) (by rfl) (by rfl) (by rfl)) ?_; rintro e w1 ⟨T, rfl, hcu, hsz, k1, h2⟩)
    | (go_at_call 34; refine (part_any T _ (by omega)).mono ?_; rintro e w2 ⟨S, hS, rfl, hb⟩)
    | (go_at_call 31; refine Calls.mono (flush_mid k1 h2 (by rfl) (by rfl) (by rfl) (by rfl) hb (by rfl) (by rfl) (by rfl) (by rfl) hB hS.one (by have := hS.len; omega)) ?_; rintro e w3 ⟨rfl, k3, h3⟩))
  all_goals
    have P0 : P (.returned (.int .i64 0)) w3 := by rw [← HP.out]; exact ⟨T, S, rfl, hcu, hsz, hS, k3, h3⟩
    clear hcu hsz hS k1 h2 hb k3 h3 HC HP
    go_wp2
    exact P0

end Go.Proofs.YtecddphahiadlaaGreatDoor

/- What a reader reads of a writer's bytes: plain reckoning. -/
namespace Go.Proofs.YtecddphahiadlaaGreatDoor
open Go.RowKit

theorem hasAt_app {X : ByteArray} {A S : ByteArray} (h : HasAt X 0 (A ++ S).data.toList) : HasAt X 0 A.data.toList ∧ HasAt X A.size S.data.toList := by
  rw [list_app] at h
  have h2 := h.rightOf
  rw [Nat.zero_add, ← size_list] at h2
  exact ⟨h.leftOf, h2⟩
theorem hasAt_all (A : ByteArray) : HasAt A 0 A.data.toList := HasAt.self A.data.toList

/-- Where the bytes end, at a whole byte, more is wanted. -/
theorem goes_end (A : ByteArray) (t : List UInt8) : Goes A M0 ⟨8 * A.size, t, 0, false⟩ 2 M0 ⟨8 * A.size, t, 0, false⟩ := by
  have e : (stepM M0 A ⟨8 * A.size, t, 0, false⟩).2.why = 2 := by
    rw [stepM_head rfl rfl]
    unfold headM
    rw [bitF_end rfl (Nat.le_refl _)]
    simp only
    have h1 := (gd_num 2).dead A (⟨8 * A.size, t, 2, false⟩ : St) (by simp)
    simp only at h1
    have h2 := (gd_kindM 0 (numF A 2 (⟨8 * A.size, t, 2, false⟩ : St)).1).dead A (numF A 2 (⟨8 * A.size, t, 2, false⟩ : St)).2 (by rw [h1.1]; simp)
    rw [h2.1, h1.1]
  have k := Goes.stop (s := A) (m := M0) (σ := ⟨8 * A.size, t, 0, false⟩) M0_over (by rw [e]; simp)
  rw [e] at k
  exact k

theorem sumL_app (N : Nat) (P Q : Nat → List UInt8) : sumL N (fun c => P c ++ if c < N then Q c else []) = sumL N P + sumL N Q := by
  have h : ∀ M, M ≤ N → sumL M (fun c => P c ++ if c < N then Q c else []) = sumL M P + sumL M Q := by
    intro M
    induction M with
    | zero => intro _; rfl
    | succ M ih =>
      intro hM
      simp only [sumL]
      rw [ih (by omega), if_pos (by omega), List.length_append]
      omega
  exact h N (Nat.le_refl _)

theorem sumL_upd (Q : Nat → List UInt8) (c : Nat) (l : List UInt8) : ∀ N, sumL N (fun d => if d = c then Q c ++ l else Q d) = sumL N Q + if c < N then l.length else 0
  | 0 => by simp [sumL]
  | N + 1 => by
    simp only [sumL]
    rw [sumL_upd Q c l N]
    by_cases e : N = c
    · subst e
      rw [if_pos rfl, if_neg (by omega), if_pos (by omega), List.length_append]
      omega
    · rw [if_neg e]
      by_cases q : c < N
      · rw [if_pos q, if_pos (by omega)]; omega
      · rw [if_neg q, if_neg (by omega)]; omega
theorem sumL_nil : ∀ N, sumL N (fun _ => []) = 0
  | 0 => rfl
  | N + 1 => by simp [sumL, sumL_nil N]
theorem take_list (S : ByteArray) (m : Nat) : (S.extract 0 m).data.toList = S.data.toList.take m := by
  rw [ByteArray.data_extract, Array.toList_extract, List.extract_eq_take_drop]
  simp
theorem take_whole (S : ByteArray) (m : Nat) (h : S.size ≤ m) : (⟨(S.data.toList.take m).toArray⟩ : ByteArray) = S := bytes_ext (by
  show (S.data.toList.take m).toArray.toList = _
  rw [List.take_of_length_le (by rw [← size_list]; exact h)])

/-- Bytes of whole pieces, whose frames bring P. -/
def Pieces (N : Nat) (A : ByteArray) (P : Nat → List UInt8) : Prop :=
  ∃ t : List UInt8, t.length ≤ 3 * sumL N P ∧ Cuts N t P ∧ ∀ X : ByteArray, HasAt X 0 A.data.toList → Steps X M0 start M0 ⟨8 * A.size, t, 0, false⟩

theorem pieces_nil (N : Nat) : Pieces N .empty (fun _ => []) := ⟨[], Nat.zero_le _, cuts_nil N, fun _ _ => Steps.refl _ _ _⟩

theorem Pieces.app {N : Nat} {A T S : ByteArray} {P Q : Nat → List UInt8} (h : Pieces N A P) (hc : Cuts N T.data.toList (fun c => if c < N then Q c else [])) (hs : T.size ≤ 3 * sumL N Q) (hp : PieceOk T S) (hb : sumL N P + sumL N Q ≤ 1600) : Pieces N (A ++ S) (fun c => P c ++ if c < N then Q c else []) := by
  obtain ⟨t, h1, h2, h3⟩ := h
  refine ⟨t ++ T.data.toList, ?_, h2.app hc, fun X hX => ?_⟩
  · rw [sumL_app, List.length_append, list_size]
    omega
  · obtain ⟨q1, q2⟩ := hasAt_app hX
    rw [ByteArray.size_append]
    exact (h3 X q1).trans (hp.go X A.size t q2 (by omega))

/-- What is read of all that a writer sent. -/
structure Sent (N : Nat) (X : ByteArray) (P : Nat → List UInt8) (fin : Bool) : Prop where
  take : takeS N z0 (runF X).text = (true, ⟨[], P⟩)
  more : fin = false → (runF X).why = 2
  done : fin = true → (runF X).why = 0 ∧ ((runF X).pos + 7) / 8 = X.size

theorem cuts_z0 {N : Nat} {t : List UInt8} {P : Nat → List UInt8} (h : Cuts N t P) : takeS N z0 t = (true, ⟨[], P⟩) := by
  rw [h z0 rfl]
  simp [z0]

theorem Pieces.full {N : Nat} {A : ByteArray} {P : Nat → List UInt8} (h : Pieces N A P) : Sent N A P false := by
  obtain ⟨t, h1, h2, h3⟩ := h
  have g := h3 A (hasAt_all A) _ _ _ (goes_end A t)
  obtain ⟨e1, e2, _, _⟩ := runF_of g
  exact ⟨by rw [e2]; exact cuts_z0 h2, fun _ => e1, fun q => by simp at q⟩

theorem Pieces.ends {N : Nat} {A T S : ByteArray} {P Q : Nat → List UInt8} (h : Pieces N A P) (hc : Cuts N T.data.toList (fun c => if c < N then Q c else [])) (hs : T.size ≤ 3 * sumL N Q) (hp : EndOk T S) (hb : sumL N P + sumL N Q ≤ 1600) : Sent N (A ++ S) (fun c => P c ++ if c < N then Q c else []) true := by
  obtain ⟨t, h1, h2, h3⟩ := h
  obtain ⟨q1, q2⟩ := hasAt_app (hasAt_all (A ++ S))
  obtain ⟨p, hp1, k⟩ := hp.go (A ++ S) A.size t q2 (by omega)
  have g := h3 _ q1 _ _ _ (k 0 ⟨true, 0, none⟩ ⟨p, t ++ T.data.toList, 0, false⟩ (Goes.done ⟨rfl, rfl, rfl⟩))
  obtain ⟨e1, e2, _, e4⟩ := runF_of g
  refine ⟨by rw [e2]; exact cuts_z0 (h2.app hc), fun q => by simp at q, fun _ => ⟨e1, ?_⟩⟩
  rw [e4 rfl, ByteArray.size_append]
  exact hp1

theorem putS_grow (N : Nat) (z : Sp) (c : UInt8) (d : Nat) : z.ch d <+: (putS N z c).2.ch d := by
  unfold putS
  split
  · exact List.prefix_refl _
  · split
    · exact List.prefix_refl _
    · split
      · simp only
        split
        · exact List.prefix_append _ _
        · exact List.prefix_refl _
      · exact List.prefix_refl _
theorem takeS_grow (N : Nat) : ∀ (l : List UInt8) (z : Sp) (d : Nat), z.ch d <+: (takeS N z l).2.ch d
  | [], _, _ => List.prefix_refl _
  | c :: l, z, d => by
    by_cases h : (putS N z c).1 = true
    · simp only [takeS, h, if_true]
      exact (putS_grow N z c d).trans (takeS_grow N l _ d)
    · simp only [takeS, h, if_false, Bool.false_eq_true]
      exact putS_grow N z c d
/-- What is right is right from the beginning on. -/
theorem takeS_front {N : Nat} {z z' : Sp} {a b : List UInt8} (h : takeS N z (a ++ b) = (true, z')) : (takeS N z a).1 = true := by
  rw [takeS_app] at h
  by_cases q : (takeS N z a).1 = true
  · exact q
  · rw [if_neg q] at h
    rw [h] at q
    exact absurd rfl q

/-- Text that is there by some bytes is there by more. -/
theorem run_text {A X : ByteArray} (h : Pfx A X) : (runF A).text <+: (runF X).text := by
  rcases run_mono h with e | e
  · rw [e]; exact List.prefix_refl _
  · exact e.2

/-- A first part of the bytes: nothing is wrong, and a first part of what was sent is there. -/
theorem Sent.part {N : Nat} {X : ByteArray} {P : Nat → List UInt8} {fin : Bool} (h : Sent N X P fin) {A : ByteArray} (hp : Pfx A X) : ansF N A = 0 ∧ ∀ c, (gotF N A).ch c <+: P c := by
  obtain ⟨l, hl⟩ := run_text hp
  have ht := h.take
  rw [← hl] at ht
  have hf := takeS_front ht
  refine ⟨?_, fun c => ?_⟩
  · unfold ansF
    rw [if_neg (by rw [hf]; simp)]
    by_cases h2 : (runF A).why = 2
    · rw [if_pos h2]
    · rw [if_neg h2]
      rcases run_mono hp with e | e
      · rw [e] at h2 ⊢
        have hz := hp.size
        cases fin with
        | false => exact absurd (h.more rfl) h2
        | true =>
          obtain ⟨d1, d2⟩ := h.done rfl
          rw [if_neg (by omega), h.take, if_neg (by simp), if_neg (by omega)]
      · exact absurd e.1 h2
  · rw [takeS_app, if_pos hf] at ht
    have hg := takeS_grow N l (takeS N z0 (runF A).text).2 c
    rw [ht] at hg
    exact hg
theorem Sent.whole {N : Nat} {X : ByteArray} {P : Nat → List UInt8} {fin : Bool} (h : Sent N X P fin) : gotF N X = ⟨[], P⟩ := by
  unfold gotF
  rw [h.take]

/-- Whatever lies behind: what was sent is there. -/
theorem Sent.behind {N : Nat} {X : ByteArray} {P : Nat → List UInt8} {fin : Bool} (h : Sent N X P fin) (B : ByteArray) (c : Nat) : P c <+: (gotF N (X ++ B)).ch c := by
  obtain ⟨l, hl⟩ := run_text (pfx_app X B)
  unfold gotF
  rw [← hl, takeS_app, h.take]
  simp only [if_true]
  exact takeS_grow N l ⟨[], P⟩ c

end Go.Proofs.YtecddphahiadlaaGreatDoor

/- A line of the statements: a writer, a reader, and what was seen of them. -/
namespace Go.Proofs.YtecddphahiadlaaGreatDoor
open Go.RowKit

/-- What a line knows. -/
structure Lk where
  taken : Nat → ByteArray
  read : Nat → ByteArray
  total : Nat
  waiting : Nat → Nat
  wire : ByteArray

def lk0 : Lk := ⟨fun _ => .empty, fun _ => .empty, 0, fun _ => 0, .empty⟩

def lnCell (N gw gr : Nat) (k : Lk) (i : Nat) : Value :=
  if i = 0 then .int .i64 (N : Nat) else if i = 1 then .pointer (some ⟨gw, 0, none⟩) else if i = 2 then .pointer (some ⟨gr, 0, none⟩)
  else if i < 11 then .string (k.taken (i - 3)) else if i < 19 then .string (k.read (i - 11)) else if i = 19 then .int .i64 (k.total : Nat)
  else if i < 28 then .int .i64 (k.waiting (i - 20) : Nat) else .string k.wire

/-- A line in memory. -/
structure MemL (Ww Wr : Nat → Prop) (B : Nat) (w : World) (gl gw gr N : Nat) (k : Lk) (Q : Nat → List UInt8) (tk wd : Nat) (L : List UInt8) (n : Nat) (closed : Bool) (A : ByteArray) (R : Nat → List UInt8) : Prop where
  row : w.rowIs gl 41 29 (lnCell N gw gr k)
  wr : MemW Ww B w gw N Q tk wd L n closed
  rd : MemR Wr B w gr N A R
  sep : ∀ b, Ww b → ¬ Wr b
  lw : ¬ Ww gl
  lr : ¬ Wr gl

/-- The blocks of a line. -/
def LB (gl : Nat) (Ww Wr : Nat → Prop) (b : Nat) : Prop := b = gl ∨ Ww b ∨ Wr b

section
variable {Ww Wr V : Nat → Prop} {B : Nat} {w w' : World} {gl gw gr N : Nat} {k k' : Lk} {Q Q' : Nat → List UInt8} {tk wd tk' wd' : Nat} {L L' : List UInt8} {n n' : Nat} {closed closed' : Bool} {A A' : ByteArray} {R R' : Nat → List UInt8}

theorem MemL.live (h : MemL Ww Wr B w gl gw gr N k Q tk wd L n closed A R) : ∀ b, LB gl Ww Wr b → b < w.heap.size := fun b q => by
  rcases q with q | q | q
  · rw [q]; exact h.row.lt
  · exact h.wr.live b q
  · exact h.rd.live b q

/-- The writer goes on. -/
theorem MemL.writer (h : MemL Ww Wr B w gl gw gr N k Q tk wd L n closed A R) (hk : Kw w w' Ww) (hw : MemW (WN Ww w.heap.size w'.heap.size) B w' gw N Q' tk' wd' L' n' closed') : MemL (WN Ww w.heap.size w'.heap.size) Wr B w' gl gw gr N k Q' tk' wd' L' n' closed' A R := by
  have hl := h.row.lt
  refine ⟨h.row.of_block (hk.block gl hl h.lw), hw, h.rd.frame hk.size (fun b q => hk.block b (h.rd.live b q) (fun e => h.sep b e q)), fun b q q2 => ?_, fun q => ?_, h.lr⟩
  · rcases q with q | q
    · exact h.sep b q q2
    · have := h.rd.live b q2; omega
  · rcases q with q | q
    · exact h.lw q
    · omega
/-- The reader goes on. -/
theorem MemL.reader (h : MemL Ww Wr B w gl gw gr N k Q tk wd L n closed A R) (hk : Kw w w' Wr) (hr : MemR (WN Wr w.heap.size w'.heap.size) B w' gr N A' R') : MemL Ww (WN Wr w.heap.size w'.heap.size) B w' gl gw gr N k Q tk wd L n closed A' R' := by
  have hl := h.row.lt
  refine ⟨h.row.of_block (hk.block gl hl h.lr), h.wr.frame hk.size (fun b q => hk.block b (h.wr.live b q) (fun e => h.sep b q e)), hr, fun b q q2 => ?_, h.lw, fun q => ?_⟩
  · rcases q2 with q2 | q2
    · exact h.sep b q q2
    · have := h.wr.live b q; omega
  · rcases q with q | q
    · exact h.lr q
    · omega
/-- Elsewhere something goes on. -/
theorem MemL.frame (h : MemL Ww Wr B w gl gw gr N k Q tk wd L n closed A R) (hk : Kw w w' V) (hV : ∀ b, LB gl Ww Wr b → ¬ V b) : MemL Ww Wr B w' gl gw gr N k Q tk wd L n closed A R :=
  have hb : ∀ b, LB gl Ww Wr b → w'.heap[b]? = w.heap[b]? := fun b q => hk.block b (h.live b q) (hV b q)
  ⟨h.row.of_block (hb gl (Or.inl rfl)), h.wr.frame hk.size (fun b q => hb b (Or.inr (Or.inl q))), h.rd.frame hk.size (fun b q => hb b (Or.inr (Or.inr q))), h.sep, h.lw, h.lr⟩
/-- A cell of its own is set. -/
theorem MemL.know (h : MemL Ww Wr B w gl gw gr N k Q tk wd L n closed A R) (i : Nat) (v : Value) (hc : ∀ j, j < 29 → lnCell N gw gr k' j = if j = i then v else lnCell N gw gr k j) : MemL Ww Wr B (w.setCell ⟨gl, i, none⟩ v) gl gw gr N k' Q tk wd L n closed A R := by
  have hb : ∀ b, b ≠ gl → (w.setCell ⟨gl, i, none⟩ v).heap[b]? = w.heap[b]? := fun b q => Below.heap_setCell _ _ _ _ q
  have hz : w.heap.size ≤ (w.setCell ⟨gl, i, none⟩ v).heap.size := by simp [World.setCell]
  exact ⟨(h.row.set i v).congr (fun j hj => (hc j hj).symm), h.wr.frame hz (fun b q => hb b (fun e => h.lw (e ▸ q))), h.rd.frame hz (fun b q => hb b (fun e => h.lr (e ▸ q))), h.sep, h.lw, h.lr⟩
theorem MemL.same (h : MemL Ww Wr B w gl gw gr N k Q tk wd L n closed A R) (hh : w'.heap = w.heap) : MemL Ww Wr B w' gl gw gr N k Q tk wd L n closed A R :=
  ⟨h.row.of_block (by rw [hh]), h.wr.same hh, h.rd.frame (by rw [hh]; exact Nat.le_refl _) (fun b _ => by rw [hh]), h.sep, h.lw, h.lr⟩
theorem MemL.cell (h : MemL Ww Wr B w gl gw gr N k Q tk wd L n closed A R) (i : Nat) (hi : i < 29) : w.cell? ⟨gl, i, none⟩ = some (lnCell N gw gr k i) ∧ w.frozen? ⟨gl, i, none⟩ = false := ⟨h.row.cell hi, h.row.frozen i⟩
end

theorem Kw.mono {w w' : World} {W W' : Nat → Prop} (h : Kw w w' W) (hW : ∀ b, W b → W' b) : Kw w w' W' := ⟨h.os, h.tape, h.output, h.size, fun b hb q => h.block b hb (fun e => q (hW b e))⟩
theorem Kw.drew {w w' : World} {W : Nat → Prop} (h : Kw w w' W) : Kw w w'.drew W := ⟨h.os, h.tape, h.output, h.size, h.block⟩
theorem Kw.set {w w' : World} {W : Nat → Prop} (h : Kw w w' W) {b i : Nat} (v : Value) (hb : W b) : Kw w (w'.setCell ⟨b, i, none⟩ v) W :=
  ⟨by rw [← h.os]; rfl, by rw [← h.tape]; rfl, by rw [← h.output]; rfl, by have := h.size; simpa [World.setCell] using this, fun c hc q => by
    have hne : c ≠ b := fun e => q (by rw [e]; exact hb)
    exact (Below.heap_setCell w' ⟨b, i, none⟩ v c hne).trans (h.block c hc q)⟩

end Go.Proofs.YtecddphahiadlaaGreatDoor

/- What a line of the statements knows, set anew. -/
namespace Go.Proofs.YtecddphahiadlaaGreatDoor
open Go.RowKit

theorem lnCell_taken (N gw gr : Nat) (k : Lk) (c : Nat) (hc : c < 8) (x : ByteArray) (j : Nat) (_hj : j < 29) : lnCell N gw gr { k with taken := fun d => if d = c then x else k.taken d } j = if j = 3 + c then .string x else lnCell N gw gr k j := by
  unfold lnCell
  by_cases h : j = 3 + c
  · rw [if_pos h]
    rw [if_neg (by omega), if_neg (by omega), if_neg (by omega), if_pos (by omega)]
    simp only
    rw [if_pos (by omega)]
  · rw [if_neg h]
    by_cases h0 : j = 0
    · simp only [if_pos h0]
    simp only [if_neg h0]
    by_cases h1 : j = 1
    · simp only [if_pos h1]
    simp only [if_neg h1]
    by_cases h2 : j = 2
    · simp only [if_pos h2]
    simp only [if_neg h2]
    by_cases h3 : j < 11
    · simp only [if_pos h3]
      rw [if_neg (by omega)]
    simp only [if_neg h3]
theorem lnCell_read (N gw gr : Nat) (k : Lk) (c : Nat) (hc : c < 8) (x : ByteArray) (j : Nat) (_hj : j < 29) : lnCell N gw gr { k with read := fun d => if d = c then x else k.read d } j = if j = 11 + c then .string x else lnCell N gw gr k j := by
  unfold lnCell
  by_cases h : j = 11 + c
  · rw [if_pos h]
    rw [if_neg (by omega), if_neg (by omega), if_neg (by omega), if_neg (by omega), if_pos (by omega)]
    simp only
    rw [if_pos (by omega)]
  · rw [if_neg h]
    by_cases h0 : j = 0
    · simp only [if_pos h0]
    simp only [if_neg h0]
    by_cases h1 : j = 1
    · simp only [if_pos h1]
    simp only [if_neg h1]
    by_cases h2 : j = 2
    · simp only [if_pos h2]
    simp only [if_neg h2]
    by_cases h3 : j < 11
    · simp only [if_pos h3]
    simp only [if_neg h3]
    by_cases h4 : j < 19
    · simp only [if_pos h4]
      rw [if_neg (by omega)]
    simp only [if_neg h4]
theorem lnCell_waiting (N gw gr : Nat) (k : Lk) (c : Nat) (hc : c < 8) (x : Nat) (j : Nat) (_hj : j < 29) : lnCell N gw gr { k with waiting := fun d => if d = c then x else k.waiting d } j = if j = 20 + c then .int .i64 (x : Nat) else lnCell N gw gr k j := by
  unfold lnCell
  by_cases h : j = 20 + c
  · rw [if_pos h]
    rw [if_neg (by omega), if_neg (by omega), if_neg (by omega), if_neg (by omega), if_neg (by omega), if_neg (by omega), if_pos (by omega)]
    simp only
    rw [if_pos (by omega)]
  · rw [if_neg h]
    by_cases h0 : j = 0
    · simp only [if_pos h0]
    simp only [if_neg h0]
    by_cases h1 : j = 1
    · simp only [if_pos h1]
    simp only [if_neg h1]
    by_cases h2 : j = 2
    · simp only [if_pos h2]
    simp only [if_neg h2]
    by_cases h3 : j < 11
    · simp only [if_pos h3]
    simp only [if_neg h3]
    by_cases h4 : j < 19
    · simp only [if_pos h4]
    simp only [if_neg h4]
    by_cases h5 : j = 19
    · simp only [if_pos h5]
    simp only [if_neg h5]
    by_cases h6 : j < 28
    · simp only [if_pos h6]
      rw [if_neg (by omega)]
    simp only [if_neg h6]
theorem lnCell_total (N gw gr : Nat) (k : Lk) (x : Nat) (j : Nat) (_hj : j < 29) : lnCell N gw gr { k with total := x } j = if j = 19 then .int .i64 (x : Nat) else lnCell N gw gr k j := by
  unfold lnCell
  by_cases h : j = 19
  · subst h
    rfl
  · simp only [if_neg h]
theorem lnCell_wire (N gw gr : Nat) (k : Lk) (x : ByteArray) (j : Nat) (hj : j < 29) : lnCell N gw gr { k with wire := x } j = if j = 28 then .string x else lnCell N gw gr k j := by
  unfold lnCell
  by_cases h : j = 28
  · subst h
    rfl
  · rw [if_neg h]
    by_cases h0 : j = 0
    · simp only [if_pos h0]
    simp only [if_neg h0]
    by_cases h1 : j = 1
    · simp only [if_pos h1]
    simp only [if_neg h1]
    by_cases h2 : j = 2
    · simp only [if_pos h2]
    simp only [if_neg h2]
    by_cases h3 : j < 11
    · simp only [if_pos h3]
    simp only [if_neg h3]
    by_cases h4 : j < 19
    · simp only [if_pos h4]
    simp only [if_neg h4]
    by_cases h5 : j = 19
    · simp only [if_pos h5]
    simp only [if_neg h5]
    by_cases h6 : j < 28
    · simp only [if_pos h6]
    simp only [if_neg h6]
    omega

theorem lnCell_at (N gw gr : Nat) (k : Lk) (c : Nat) (hc : c < 8) : lnCell N gw gr k (3 + c) = .string (k.taken c) ∧ lnCell N gw gr k (11 + c) = .string (k.read c) ∧ lnCell N gw gr k (20 + c) = .int .i64 (k.waiting c : Nat) := by
  refine ⟨?_, ?_, ?_⟩
  · unfold lnCell
    rw [if_neg (by omega), if_neg (by omega), if_neg (by omega), if_pos (by omega), Nat.add_sub_cancel_left]
  · unfold lnCell
    rw [if_neg (by omega), if_neg (by omega), if_neg (by omega), if_neg (by omega), if_pos (by omega), Nat.add_sub_cancel_left]
  · unfold lnCell
    rw [if_neg (by omega), if_neg (by omega), if_neg (by omega), if_neg (by omega), if_neg (by omega), if_neg (by omega), if_pos (by omega), Nat.add_sub_cancel_left]
theorem lnCell_fix (N gw gr : Nat) (k : Lk) : lnCell N gw gr k 0 = .int .i64 (N : Nat) ∧ lnCell N gw gr k 1 = .pointer (some ⟨gw, 0, none⟩) ∧ lnCell N gw gr k 2 = .pointer (some ⟨gr, 0, none⟩) ∧ lnCell N gw gr k 19 = .int .i64 (k.total : Nat) ∧ lnCell N gw gr k 28 = .string k.wire := ⟨rfl, rfl, rfl, rfl, rfl⟩

section
variable {Ww Wr : Nat → Prop} {B : Nat} {w : World} {gl gw gr N : Nat} {k : Lk} {Q : Nat → List UInt8} {tk wd : Nat} {L : List UInt8} {n : Nat} {closed : Bool} {A : ByteArray} {R : Nat → List UInt8}
theorem MemL.setTaken (h : MemL Ww Wr B w gl gw gr N k Q tk wd L n closed A R) (c : Nat) (hc : c < 8) (x : ByteArray) : MemL Ww Wr B (w.setCell ⟨gl, 3 + c, none⟩ (.string x)) gl gw gr N { k with taken := fun d => if d = c then x else k.taken d } Q tk wd L n closed A R := h.know _ _ (lnCell_taken N gw gr k c hc x)
theorem MemL.setRead (h : MemL Ww Wr B w gl gw gr N k Q tk wd L n closed A R) (c : Nat) (hc : c < 8) (x : ByteArray) : MemL Ww Wr B (w.setCell ⟨gl, 11 + c, none⟩ (.string x)) gl gw gr N { k with read := fun d => if d = c then x else k.read d } Q tk wd L n closed A R := h.know _ _ (lnCell_read N gw gr k c hc x)
theorem MemL.setWaiting (h : MemL Ww Wr B w gl gw gr N k Q tk wd L n closed A R) (c : Nat) (hc : c < 8) (x : Nat) : MemL Ww Wr B (w.setCell ⟨gl, 20 + c, none⟩ (.int .i64 (x : Nat))) gl gw gr N { k with waiting := fun d => if d = c then x else k.waiting d } Q tk wd L n closed A R := h.know _ _ (lnCell_waiting N gw gr k c hc x)
theorem MemL.setTotal (h : MemL Ww Wr B w gl gw gr N k Q tk wd L n closed A R) (x : Nat) : MemL Ww Wr B (w.setCell ⟨gl, 19, none⟩ (.int .i64 (x : Nat))) gl gw gr N { k with total := x } Q tk wd L n closed A R := h.know _ _ (lnCell_total N gw gr k x)
theorem MemL.setWire (h : MemL Ww Wr B w gl gw gr N k Q tk wd L n closed A R) (x : ByteArray) : MemL Ww Wr B (w.setCell ⟨gl, 28, none⟩ (.string x)) gl gw gr N { k with wire := x } Q tk wd L n closed A R := h.know _ _ (lnCell_wire N gw gr k x)
end

end Go.Proofs.YtecddphahiadlaaGreatDoor

/- A line of the statements is made. -/
namespace Go.Proofs.YtecddphahiadlaaGreatDoor
open Go.RowKit

def lnNew (N gw gr : Nat) : Array Value := #[.int .i64 (N : Nat), .pointer (some ⟨gw, 0, none⟩), .pointer (some ⟨gr, 0, none⟩), .string .empty, .string .empty, .string .empty, .string .empty, .string .empty, .string .empty, .string .empty, .string .empty, .string .empty, .string .empty, .string .empty, .string .empty, .string .empty, .string .empty, .string .empty, .string .empty, .int .i64 0, .int .i64 0, .int .i64 0, .int .i64 0, .int .i64 0, .int .i64 0, .int .i64 0, .int .i64 0, .int .i64 0, .string .empty]

theorem lnNew_row (N gw gr : Nat) (w : World) : (w.alloc (.cells (lnNew N gw gr) 41)).rowIs w.heap.size 41 29 (lnCell N gw gr lk0) :=
  World.rowIs_alloc w (lnNew N gw gr) 41 _ (fun i hi => by
    match i, hi with
    | 0, _ => rfl
    | 1, _ => rfl
    | 2, _ => rfl
    | 3, _ => rfl
    | 4, _ => rfl
    | 5, _ => rfl
    | 6, _ => rfl
    | 7, _ => rfl
    | 8, _ => rfl
    | 9, _ => rfl
    | 10, _ => rfl
    | 11, _ => rfl
    | 12, _ => rfl
    | 13, _ => rfl
    | 14, _ => rfl
    | 15, _ => rfl
    | 16, _ => rfl
    | 17, _ => rfl
    | 18, _ => rfl
    | 19, _ => rfl
    | 20, _ => rfl
    | 21, _ => rfl
    | 22, _ => rfl
    | 23, _ => rfl
    | 24, _ => rfl
    | 25, _ => rfl
    | 26, _ => rfl
    | 27, _ => rfl
    | 28, _ => rfl
    | q + 29, h => exact absurd h (by show ¬ q + 29 < 29; omega))

def LinP (B : Nat) (w : World) (N : Nat) (e : Ending) (w' : World) : Prop :=
  ∃ gl gw gr Ww Wr, e = .returned (.pointer (some ⟨gl, 0, none⟩)) ∧ Below w.heap.size w w' ∧ MemL Ww Wr B w' gl gw gr N lk0 (fun _ => []) 0 0 [] 0 false .empty (fun _ => []) ∧ ∀ b, LB gl Ww Wr b → w.heap.size ≤ b

set_option maxRecDepth 4000 in
set_option maxHeartbeats 400000 in
theorem line_any (B N : Nat) (c : Int) (w : World) (h1 : -9223372036854775808 ≤ c) (h2 : c ≤ 9223372036854775807) (hN : (N : Int) = 1 + pickN c 8) (hB : B ≤ w.heap.size) :
    Calls Tryz.prog 8 #[.int .i64 c] w (LinP B w N) := by
  have hbd := pickN_bd c 8 (by omega)
  generalize hP : LinP B w N = P
  have HP : Hid (LinP B w N = P) := hP
  clear hP
  go_enter Tryz.func8, Tryz.ntmps8
  go_wp2_with fail
  refine (pick_any c 8 w h1 h2 (by omega) (by omega)).mono ?_
  rintro e w0 ⟨rfl, rfl⟩
  generalize pickN c 8 = p at hbd hN ⊢
  obtain rfl : p = (N : Int) - 1 := by omega
  have eN : (N : Int) - 1 + 1 = (N : Int) := by omega
  have eN2 : 1 + ((N : Int) - 1) = (N : Int) := by omega
  have hN1 : 1 ≤ N := by omega
  have hN8 : N ≤ 8 := by omega
  clear hN hbd
  have HW : Hid (_) := newWriter_any B N w0 (by omega) (by omega) hB
  go_wp2_with fail
  try rw [eN]
  try rw [eN2]
  refine Calls.mono HW.out ?_
  rintro e w1 ⟨gw, rfl, hgw, hw, hb1⟩
  have hs1 := hb1.size
  have HR : Hid (_) := newReader_any B N w1 (by omega) (by omega) (by omega)
  have HH : Hid (MemW (fun b => w0.heap.size ≤ b ∧ b < w1.heap.size) B w1 gw N (fun _ => []) 0 0 [] 0 false ∧ Below w0.heap.size w0 w1) := ⟨hw, hb1⟩
  clear HW hw hb1 hgw
  go_wp2_with fail
  try rw [eN]
  try rw [eN2]
  refine Calls.mono HR.out ?_
  rintro e w2 ⟨gr, rfl, hgr, hr, hb2⟩
  have HF : Hid (P (.returned (.pointer (some ⟨w2.heap.size, 0, none⟩))) (w2.alloc (.cells (lnNew N gw gr) 41))) := by
    obtain ⟨hw, hb1⟩ := HH.out
    have hs2 := hb2.size
    have hba : Below w2.heap.size w2 (w2.alloc (.cells (lnNew N gw gr) 41)) := (Below.refl _ _).alloc (Nat.le_refl _) _
    rw [← HP.out]
    refine ⟨w2.heap.size, gw, gr, _, _, rfl, (hb1.trans (hb2.mono hb1.size)).trans (hba.mono (by omega)), ⟨lnNew_row N gw gr w2, (hw.below hb2).below hba, (memR_new hr).below hba, fun b q q2 => ?_, fun q => ?_, fun q => ?_⟩, fun b q => ?_⟩
    · omega
    · omega
    · omega
    · rcases q with q | q | q <;> omega
  clear HR HH hr hb2 HP hgr
  unfold lnNew at HF
  go_wp2
  exact HF.out

end Go.Proofs.YtecddphahiadlaaGreatDoor

/- A line of the statements: writes. -/
namespace Go.Proofs.YtecddphahiadlaaGreatDoor
open Go.RowKit

def Lk.wrote (k : Lk) (c : Nat) (S : ByteArray) (m : Nat) : Lk :=
  ⟨fun d => if d = c then k.taken c ++ S.extract 0 m else k.taken d, k.read, k.total + m, fun d => if d = c then k.waiting c + m else k.waiting d, k.wire⟩

def WrsP (Ww Wr : Nat → Prop) (B : Nat) (w : World) (gl gw gr N : Nat) (k : Lk) (Q : Nat → List UInt8) (tk wd : Nat) (L : List UInt8) (n : Nat) (A : ByteArray) (R : Nat → List UInt8) (c : Nat) (S : ByteArray) (m : Nat) (e : Ending) (w' : World) : Prop :=
  e = .returned (.bool true) ∧ Kw w w' (LB gl Ww Wr) ∧ MemL (WN Ww w.heap.size w'.heap.size) Wr B w' gl gw gr N (k.wrote c S m) (fun d => if d = c then Q c ++ S.data.toList.take m else Q d) (tk + m) wd L n false A R

set_option maxRecDepth 20000 in
set_option maxHeartbeats 1000000 in
theorem writes_any (Ww Wr : Nat → Prop) (B gl gw gr N : Nat) (k : Lk) (Q : Nat → List UInt8) (tk wd : Nat) (L : List UInt8) (n : Nat) (A : ByteArray) (R : Nat → List UInt8) (ch : Int) (c : Nat) (S : ByteArray) (m : Nat) (w : World)
    (h : MemL Ww Wr B w gl gw gr N k Q tk wd L n false A R) (h1 : -9223372036854775808 ≤ ch) (h2 : ch ≤ 9223372036854775807) (hN1 : 1 ≤ N) (hN : N ≤ 8) (hc : (c : Int) = pickN ch N) (hm : m = takenN (Q c).length tk S.size)
    (hq : (Q c).length ≤ 200) (ht : tk ≤ 1500) (htot : k.total = tk) (hwt : (Q c).length ≤ k.waiting c) (hwb : k.waiting c ≤ 5000) (htk : (k.taken c).size ≤ 5000) (hB : B ≤ w.heap.size) (hS : S.size ≤ 140737488400000) :
    Calls Tryz.prog 17 #[.pointer (some ⟨gl, 0, none⟩), .int .i64 ch, .string S] w (WrsP Ww Wr B w gl gw gr N k Q tk wd L n A R c S m) := by
  have hbd := pickN_bd ch N (by omega)
  rw [← hc] at hbd
  have hcN : c < N := by omega
  have hc8 : c < 8 := by omega
  have HW : Hid (_) := write_open Ww B gw N Q tk wd L n c S w h.wr hcN hq ht hB hS
  have c0 := (h.cell 0 (by omega)).1
  have c1 := (h.cell 1 (by omega)).1
  rw [(lnCell_fix N gw gr k).1] at c0
  rw [(lnCell_fix N gw gr k).2.1] at c1
  have hm1 : m ≤ S.size := by rw [hm]; unfold takenN; omega
  have hm2 : m ≤ 200 := by rw [hm]; unfold takenN; omega
  have hm3 : tk + m ≤ 1500 := by rw [hm]; unfold takenN; omega
  have hm4 : S.size ≤ m ∨ 200 ≤ m + k.waiting c ∨ 1500 ≤ tk + m := by rw [hm]; unfold takenN; omega
  have HM : Hid (m = takenN (Q c).length tk S.size) := hm
  have HH : Hid (MemL Ww Wr B w gl gw gr N k Q tk wd L n false A R) := h
  generalize hP : WrsP Ww Wr B w gl gw gr N k Q tk wd L n A R c S m = P
  have HP : Hid (WrsP Ww Wr B w gl gw gr N k Q tk wd L n A R c S m = P) := hP
  obtain ⟨tt, htt⟩ : ∃ tt, tt = k.total := ⟨_, rfl⟩
  obtain ⟨wt, hwtt⟩ : ∃ wt, wt = k.waiting c := ⟨_, rfl⟩
  obtain ⟨ta, hta⟩ : ∃ ta, ta = k.taken c := ⟨_, rfl⟩
  clear hP h hm
  rw [← htt] at htot
  rw [← hwtt] at hwb hm4
  rw [← hta] at htk
  have HTT : Hid (tt = k.total) := htt
  have HWT : Hid (wt = k.waiting c) := hwtt
  have HTA : Hid (ta = k.taken c) := hta
  clear hwt hq htt hwtt hta
  go_enter Tryz.func17, Tryz.ntmps17
  go_wp2_with fail
  refine (pick_any ch N w h1 h2 (by omega) (by omega)).mono ?_
  rintro e w0 ⟨rfl, rfl⟩
  rw [← hc]
  clear hc
  go_wp2_with fail
  refine Calls.mono HW.out ?_
  rintro e w1 ⟨rfl, hk, hw⟩
  rw [← HM.out] at hw ⊢
  have h2 := HH.out.writer hk hw
  have a1 := h2.cell 19 (by omega)
  have a2 := h2.cell (20 + c) (by omega)
  have a3 := h2.cell (3 + c) (by omega)
  rw [(lnCell_fix N gw gr k).2.2.2.1, ← HTT.out] at a1
  rw [(lnCell_at N gw gr k c hc8).2.2, ← HWT.out] at a2
  rw [(lnCell_at N gw gr k c hc8).1, ← HTA.out] at a3
  obtain ⟨a1, a1f⟩ := a1
  obtain ⟨a2, a2f⟩ := a2
  obtain ⟨a3, a3f⟩ := a3
  have HF : Hid (P (.returned (.bool true)) (((w1.setCell ⟨gl, 3 + c, none⟩ (.string (ta ++ S.extract 0 m))).setCell ⟨gl, 20 + c, none⟩ (.int .i64 ((wt : Int) + (m : Int)))).setCell ⟨gl, 19, none⟩ (.int .i64 ((tt : Int) + (m : Int)))).drew.drew) := by
    rw [← HP.out]
    have eI1 : ((wt + m : Nat) : Int) = (wt : Int) + (m : Int) := by omega
    have eI2 : ((tt + m : Nat) : Int) = (tt : Int) + (m : Int) := by omega
    have g1 := ((h2.setTaken c hc8 (ta ++ S.extract 0 m)).setWaiting c hc8 (wt + m)).setTotal (tt + m)
    rw [eI1, eI2] at g1
    have e0 : ∀ (W : World) (a : Addr) (v : Value), (W.setCell a v).heap.size = W.heap.size := fun W a v => by simp [World.setCell]
    have kk : Kw w0 w1 (LB gl Ww Wr) := hk.mono (fun b q => Or.inr (Or.inl q))
    have hgl : LB gl Ww Wr gl := Or.inl rfl
    have kk2 := ((((kk.set (i := 3 + c) (.string (ta ++ S.extract 0 m)) hgl).set (i := 20 + c) (.int .i64 ((wt : Int) + (m : Int))) hgl).set (i := 19) (.int .i64 ((tt : Int) + (m : Int))) hgl).drew).drew
    refine ⟨rfl, kk2, ?_⟩
    have ez : (((w1.setCell ⟨gl, 3 + c, none⟩ (.string (ta ++ S.extract 0 m))).setCell ⟨gl, 20 + c, none⟩ (.int .i64 ((wt : Int) + (m : Int)))).setCell ⟨gl, 19, none⟩ (.int .i64 ((tt : Int) + (m : Int)))).drew.drew.heap.size = w1.heap.size := by
      show (((w1.setCell ⟨gl, 3 + c, none⟩ (.string (ta ++ S.extract 0 m))).setCell ⟨gl, 20 + c, none⟩ (.int .i64 ((wt : Int) + (m : Int)))).setCell ⟨gl, 19, none⟩ (.int .i64 ((tt : Int) + (m : Int)))).heap.size = _
      rw [e0, e0, e0]
    rw [ez]
    have g2 := g1.same (w' := (((w1.setCell ⟨gl, 3 + c, none⟩ (.string (ta ++ S.extract 0 m))).setCell ⟨gl, 20 + c, none⟩ (.int .i64 ((wt : Int) + (m : Int)))).setCell ⟨gl, 19, none⟩ (.int .i64 ((tt : Int) + (m : Int)))).drew.drew) rfl
    rw [HTA.out, HWT.out, HTT.out] at g2 ⊢
    exact g2
  have hcI : (c : Int) < 8 := by omega
  have hb5 : tt + m ≤ 1500 := by omega
  have d1 : decide ((m : Int) < 0) = false := by rw [decide_eq_false_iff_not]; omega
  have d2 : decide (S.size < m) = false := by rw [decide_eq_false_iff_not]; omega
  have d3 : decide (200 < (m : Int)) = false := by rw [decide_eq_false_iff_not]; omega
  have d4 : decide (1500 < (tt : Int) + (m : Int)) = false := by rw [decide_eq_false_iff_not]; omega
  have d5 : decide (m < S.size) = false ∨ decide (m < S.size) = true ∧ (decide ((m : Int) < 200 - (wt : Int)) = false ∨ decide ((m : Int) < 200 - (wt : Int)) = true ∧ decide ((tt : Int) + (m : Int) < 1500) = false) := by
    by_cases x1 : m < S.size
    · refine Or.inr ⟨decide_eq_true x1, ?_⟩
      by_cases x2 : (m : Int) < 200 - (wt : Int)
      · exact Or.inr ⟨decide_eq_true x2, decide_eq_false (by omega)⟩
      · exact Or.inl (decide_eq_false x2)
    · exact Or.inl (decide_eq_false x1)
  clear HW HM HH hk hw h2 HP c0 c1 htot hm4 HTT HWT HTA
  rcases d5 with d5 | ⟨d5, d6 | ⟨d6, d7⟩⟩
  all_goals
    go_wp2_with fail
    go_region
    go_wp2_with fail
    go_region
    go_wp2_with fail
    exact HF.out

end Go.Proofs.YtecddphahiadlaaGreatDoor
