import Derived.Test.YtecddphahiadlaaGreatDoorCGFeed
import Derived.Lib.BufferRead
import Derived.Lib.AppendZeros
import Derived.Laws.CopyOwn
import Derived.Defers
import Derived.Recover
import Derived.Test.YtecddphahiadlaaGreatDoorCClone
import Derived.Deep.RegionLaw
/- A bytes.Buffer in memory, within a block that holds more. -/
namespace Go.Proofs.YtecddphahiadlaaGreatDoor
open Go.RowKit
/-- A row with a buffer's three cells laid anew. -/
def updB (f : Nat → Value) (o : Nat) (v : Value) (off : Nat) (lr : Int) (i : Nat) : Value :=
 if i = o then v else if i = o + 1 then .int .i64 (off : Nat) else if i = o + 2 then .int .i8 lr else f i
/-- A buffer at o in block b: M its bytes, the first off of them read. -/
structure Bf (B : Nat) (w : World) (b o : Nat) (T : TypeId) (n : Nat) (f : Nat → Value) (v : Value) (off : Nat) (lr : Int) (M : List UInt8) : Prop where
 row : w.rowIs b T n f
 room : o + 3 ≤ n
 f0 : f o = v
 f1 : f (o + 1) = .int .i64 (off : Nat)
 f2 : f (o + 2) = .int .i8 lr
 own : w.ownsRow B 5 1 v M.length (byteVals M)
 le : off ≤ M.length
 ne : v.ownBlock ≠ some b
namespace Bf
variable {B : Nat} {w : World} {b o : Nat} {T : TypeId} {n : Nat} {f : Nat → Value} {v : Value} {off : Nat} {lr : Int} {M : List UInt8}
theorem c0 (h : Bf B w b o T n f v off lr M) : w.cell? ⟨b, o, none⟩ = some v := by rw [h.row.cell (by have := h.room; omega), h.f0]
theorem c1 (h : Bf B w b o T n f v off lr M) : w.cell? ⟨b, o + 1, none⟩ = some (.int .i64 (off : Nat)) := by rw [h.row.cell (by have := h.room; omega), h.f1]
theorem c2 (h : Bf B w b o T n f v off lr M) : w.cell? ⟨b, o + 2, none⟩ = some (.int .i8 lr) := by rw [h.row.cell (by have := h.room; omega), h.f2]
theorem fz (h : Bf B w b o T n f v off lr M) (i : Nat) : w.frozen? ⟨b, i, none⟩ = false := h.row.frozen i
theorem shape (h : Bf B w b o T n f v off lr M) : (v = .slice none 0 0 ∧ M = []) ∨ ∃ g cap, v = .slice (some ⟨g, 0, none⟩) M.length cap ∧ M.length ≤ cap := by
 obtain ⟨_, q⟩ := h.own
 rcases q with ⟨q, q0⟩ | ⟨g, cap, cur, q, _, _, q2, _⟩
 · exact Or.inl ⟨q, List.eq_nil_of_length_eq_zero q0⟩
 · exact Or.inr ⟨g, cap, q, q2⟩
end Bf
theorem owns_setB {B : Nat} {w : World} {b : Nat} {e : TypeId} {z n : Nat} {v : Value} {l : List Value} (h : w.ownsRow B e z v n l) (hn : v.ownBlock ≠ some b) (i : Nat) (x : Value) : (w.setCell ⟨b, i, none⟩ x).ownsRow B e z v n l :=
 ownsRow_frame h (fun g e => Below.heap_setCell _ _ _ _ (fun e2 => hn (by rw [e]; exact congrArg some e2)))
/-- The reads that a buffer still has to give. -/
def left (M : List UInt8) (off : Nat) : List UInt8 := M.drop off
set_option maxHeartbeats 400000 in
theorem blen_any (B b o : Nat) (T : TypeId) (n : Nat) (f : Nat → Value) (v : Value) (off : Nat) (lr : Int) (M : List UInt8) (w : World) (h : Bf B w b o T n f v off lr M) (hM : M.length ≤ 140737488400000) :
 Calls Tryz.prog 62 #[.pointer (some ⟨b, o, none⟩)] w fun e w' => e = .returned (.int .i64 (M.length - off : Nat)) ∧ ∃ q, w' = w.drewN q := by
 have c0 := h.c0
 have c1 := h.c1
 have hle := h.le
 obtain ⟨ao, cap, hv⟩ : ∃ ao cap, v = .slice ao M.length cap := by
  rcases h.shape with ⟨e, e2⟩ | ⟨g, cap, e, _⟩
  · exact ⟨none, 0, by rw [e, e2]; rfl⟩
  · exact ⟨_, _, e⟩
 rw [hv] at c0
 have hI : (M.length : Int) - (off : Int) = ((M.length - off : Nat) : Int) := by omega
 clear h hv
 generalize M.length - off = d at hI ⊢
 generalize M.length = m at c0 hM hle hI
 go_enter Tryz.func62, Tryz.ntmps62
 go_wp2
 go_big_quiet (fail)
 go_wp2
 go_ret
 exact ⟨rfl, nq, rfl⟩
section
variable {B : Nat} {w : World} {b o : Nat} {T : TypeId} {n : Nat} {f : Nat → Value} {v : Value} {off : Nat} {lr : Int} {M : List UInt8}
/-- Whatever world has the same blocks. -/
theorem Bf.drewN (h : Bf B w b o T n f v off lr M) (q : Nat) : Bf B (w.drewN q) b o T n f v off lr M := ⟨h.row.of_block rfl, h.room, h.f0, h.f1, h.f2, h.own, h.le, h.ne⟩
theorem Bf.frame {w' : World} (h : Bf B w b o T n f v off lr M) (hx : w'.heap[b]? = w.heap[b]?) (hv : ∀ g, v.ownBlock = some g → w'.heap[g]? = w.heap[g]?) : Bf B w' b o T n f v off lr M :=
 ⟨h.row.of_block hx, h.room, h.f0, h.f1, h.f2, ownsRow_frame h.own hv, h.le, h.ne⟩
theorem updB_0 (f : Nat → Value) (o : Nat) (v : Value) (off : Nat) (lr : Int) : updB f o v off lr o = v := by unfold updB; rw [if_pos rfl]
theorem updB_1 (f : Nat → Value) (o : Nat) (v : Value) (off : Nat) (lr : Int) : updB f o v off lr (o + 1) = .int .i64 (off : Nat) := by unfold updB; rw [if_neg (by omega), if_pos rfl]
theorem updB_2 (f : Nat → Value) (o : Nat) (v : Value) (off : Nat) (lr : Int) : updB f o v off lr (o + 2) = .int .i8 lr := by unfold updB; rw [if_neg (by omega), if_neg (by omega), if_pos rfl]
theorem updB_o {f : Nat → Value} {o : Nat} {v : Value} {off : Nat} {lr : Int} {i : Nat} (h0 : i ≠ o) (h1 : i ≠ o + 1) (h2 : i ≠ o + 2) : updB f o v off lr i = f i := by unfold updB; rw [if_neg h0, if_neg h1, if_neg h2]
theorem updB_updB (f : Nat → Value) (o : Nat) (v v' : Value) (off off' : Nat) (lr lr' : Int) : updB (updB f o v off lr) o v' off' lr' = updB f o v' off' lr' := by
 funext i
 rcases (by omega : i = o ∨ i = o + 1 ∨ i = o + 2 ∨ (i ≠ o ∧ i ≠ o + 1 ∧ i ≠ o + 2)) with e | e | e | ⟨e0, e1, e2⟩
 · subst e; rw [updB_0, updB_0]
 · subst e; rw [updB_1, updB_1]
 · subst e; rw [updB_2, updB_2]
 · rw [updB_o e0 e1 e2, updB_o e0 e1 e2, updB_o e0 e1 e2]
/-- The third cell is laid anew. -/
theorem Bf.setLr (h : Bf B w b o T n f v off lr M) (l : Int) : Bf B (w.setCell ⟨b, o + 2, none⟩ (.int .i8 l)) b o T n (updB f o v off l) v off l M := by
 refine ⟨(h.row.set (o + 2) _).congr (fun i _ => ?_), h.room, updB_0 _ _ _ _ _, updB_1 _ _ _ _ _, updB_2 _ _ _ _ _, owns_setB h.own h.ne _ _, h.le, h.ne⟩
 rcases (by omega : i = o ∨ i = o + 1 ∨ i = o + 2 ∨ (i ≠ o ∧ i ≠ o + 1 ∧ i ≠ o + 2)) with e | e | e | ⟨e0, e1, e2⟩
 · subst e; rw [updB_0, if_neg (by omega), h.f0]
 · subst e; rw [updB_1, if_neg (by omega), h.f1]
 · subst e; rw [updB_2, if_pos rfl]
 · rw [updB_o e0 e1 e2, if_neg e2]
/-- The second cell is laid anew. -/
theorem Bf.setOff (h : Bf B w b o T n f v off lr M) (k : Nat) (hk : k ≤ M.length) : Bf B (w.setCell ⟨b, o + 1, none⟩ (.int .i64 (k : Nat))) b o T n (updB f o v k lr) v k lr M := by
 refine ⟨(h.row.set (o + 1) _).congr (fun i _ => ?_), h.room, updB_0 _ _ _ _ _, updB_1 _ _ _ _ _, updB_2 _ _ _ _ _, owns_setB h.own h.ne _ _, hk, h.ne⟩
 rcases (by omega : i = o ∨ i = o + 1 ∨ i = o + 2 ∨ (i ≠ o ∧ i ≠ o + 1 ∧ i ≠ o + 2)) with e | e | e | ⟨e0, e1, e2⟩
 · subst e; rw [updB_0, if_neg (by omega), h.f0]
 · subst e; rw [updB_1, if_pos rfl]
 · subst e; rw [updB_2, if_neg (by omega), h.f2]
 · rw [updB_o e0 e1 e2, if_neg e1]
/-- The slice is laid anew. -/
theorem Bf.setBuf (h : Bf B w b o T n f v off lr M) (v' : Value) (M' : List UInt8) (ho : w.ownsRow B 5 1 v' M'.length (byteVals M')) (hn : v'.ownBlock ≠ some b) (hle : off ≤ M'.length) : Bf B (w.setCell ⟨b, o, none⟩ v') b o T n (updB f o v' off lr) v' off lr M' := by
 refine ⟨(h.row.set o _).congr (fun i _ => ?_), h.room, updB_0 _ _ _ _ _, updB_1 _ _ _ _ _, updB_2 _ _ _ _ _, owns_setB ho hn _ _, hle, hn⟩
 rcases (by omega : i = o ∨ i = o + 1 ∨ i = o + 2 ∨ (i ≠ o ∧ i ≠ o + 1 ∧ i ≠ o + 2)) with e | e | e | ⟨e0, e1, e2⟩
 · subst e; rw [updB_0, if_pos rfl]
 · subst e; rw [updB_1, if_neg (by omega), h.f1]
 · subst e; rw [updB_2, if_neg (by omega), h.f2]
 · rw [updB_o e0 e1 e2, if_neg e0]
end
/-- The buffer's cells anew: what a call leaves. -/
def BufP (B : Nat) (w : World) (b o : Nat) (T : TypeId) (n : Nat) (f : Nat → Value) (v : Value) (w' : World) (v' : Value) (off' : Nat) (lr' : Int) (M' : List UInt8) : Prop :=
 Bf B w' b o T n (updB f o v' off' lr') v' off' lr' M' ∧ Kp w w' b v ∧ ∀ g, v'.ownBlock = some g → v.ownBlock = some g ∨ w.heap.size ≤ g
/-- What Next answers: a slice of the row. -/
def NextP (B : Nat) (w : World) (b o : Nat) (T : TypeId) (n : Nat) (f : Nat → Value) (v : Value) (off : Nat) (M : List UInt8) (k : Nat) (e : Ending) (w' : World) : Prop :=
 ∃ vs lr', e = .returned vs ∧ BufP B w b o T n f v w' v (off + k) lr' M ∧ ∀ q, (convert 80 9 vs).run Tryz.prog (w'.drewN q) = .ok (.string ⟨((M.drop off).take k).toArray⟩) (w'.drewN q)
/-- A piece of the row as a string. -/
theorem conv_mid {B : Nat} {w : World} {g n cap c : Nat} {l : List UInt8} (k m : Nat) (ho : w.ownsRow B 5 1 (.slice (some ⟨g, 0, none⟩) n cap) n (byteVals l)) (hn : n = l.length) (hk : k + m ≤ n) :
 (convert 80 9 (.slice (some ⟨g, k, none⟩) m c)).run Tryz.prog w = .ok (.string ⟨((l.drop k).take m).toArray⟩) w := by
 have e : ((l.drop k).take m).length = m := by rw [List.length_take, List.length_drop]; omega
 have q := run_convert_bytes_back (P := Tryz.prog) w 80 9 5 ⟨g, k, none⟩ c ((l.drop k).take m) Tryz.underlying80 Tryz.underlying5 Tryz.underlying9 (fun j hj => ?_)
 · rw [e] at q; exact q
 ·
  rw [e] at hj
  have hj2 : k + j < l.length := by omega
  have cc := ho.cells (g := g) rfl (k + j) _ (byteVals_get l (k + j) hj2)
  have e2 : l.getD (k + j) 0 = ((l.drop k).take m)[j] := by
   rw [List.getD_eq_getElem?_getD, List.getElem?_eq_getElem hj2, List.getElem_take, List.getElem_drop]; rfl
  rw [e2, addr_add0] at cc
  rw [Addr.add_mid]
  exact cc
set_option maxRecDepth 4000 in
set_option maxHeartbeats 1000000 in
theorem next_any (B b o : Nat) (T : TypeId) (n : Nat) (f : Nat → Value) (v : Value) (off : Nat) (lr : Int) (M : List UInt8) (most k : Nat) (w : World) (h : Bf B w b o T n f v off lr M) (hM : M.length ≤ 140737488400000) (hm : most ≤ 9223372036854775807) (hk : k = min most (M.length - off)) :
 Calls Tryz.prog 36 #[.pointer (some ⟨b, o, none⟩), .int .i64 (most : Int)] w (NextP B w b o T n f v off M k) := by
 have f2 := h.fz (o + 2)
 have c2 := h.c2
 have h1 := h.setLr 0
 have hle := h.le
 have k1 : Kp w (w.setCell ⟨b, o + 2, none⟩ (.int .i8 0)) b v := (Kp.refl _ _ _).set (o + 2) _
 go_enter Tryz.func36, Tryz.ntmps36
 go_wp2_with fail
 refine (blen_any B b o T n _ v off 0 M _ h1 hM).mono ?_
 rintro e w2 ⟨rfl, q2, hw2⟩
 have h2 : Bf B w2 b o T n (updB f o v off 0) v off 0 M := by rw [hw2]; exact h1.drewN q2
 have K2 : Kp w w2 b v := by rw [hw2]; exact k1.drewN q2
 clear h1 k1 hw2 c2 f2
 have c0 := h2.c0
 have c1 := h2.c1
 have g1 := h2.fz (o + 1)
 have g2 := h2.fz (o + 2)
 have c2 := h2.c2
 have hkl : off + k ≤ M.length := by omega
 have h3 : ∀ q, Bf B ((w2.drewN q).setCell ⟨b, o + 1, none⟩ (.int .i64 (off + k : Nat))) b o T n (updB f o v (off + k) 0) v (off + k) 0 M := fun q => by
  have := (h2.drewN q).setOff (off + k) hkl
  rw [updB_updB] at this
  exact this
 have HP : Hid (∀ q vs, (∀ w4 : World, w4.ownsRow B 5 1 v M.length (byteVals M) → (convert 80 9 vs).run Tryz.prog w4 = .ok (.string ⟨((M.drop off).take k).toArray⟩) w4) → NextP B w b o T n f v off M k (.returned vs) ((w2.drewN q).setCell ⟨b, o + 1, none⟩ (.int .i64 (off + k : Nat))) ∧
  ∀ l, NextP B w b o T n f v off M k (.returned vs) (((w2.drewN q).setCell ⟨b, o + 1, none⟩ (.int .i64 (off + k : Nat))).setCell ⟨b, o + 2, none⟩ (.int .i8 l))) := fun q vs hc => by
  refine ⟨⟨vs, 0, rfl, ⟨h3 q, (K2.drewN q).set (o + 1) _, fun _ hg => Or.inl hg⟩, fun p => hc _ (h3 q).own⟩, fun l => ?_⟩
  have h4 := (h3 q).setLr l
  rw [updB_updB] at h4
  exact ⟨vs, l, rfl, ⟨h4, ((K2.drewN q).set (o + 1) _).set (o + 2) _, fun _ hg => Or.inl hg⟩, fun p => hc _ h4.own⟩
 have HC1 : Hid (∀ g cap c, v = .slice (some ⟨g, 0, none⟩) M.length cap → ∀ w4 : World, w4.ownsRow B 5 1 v M.length (byteVals M) → (convert 80 9 (.slice (some ⟨g, off, none⟩) k c)).run Tryz.prog w4 = .ok (.string ⟨((M.drop off).take k).toArray⟩) w4) := fun g cap c hv w4 ho => by
  rw [hv] at ho
  exact conv_mid off k ho rfl hkl
 have HC0 : Hid (k = 0 → ∀ a c, ∀ w4 : World, w4.ownsRow B 5 1 v M.length (byteVals M) → (convert 80 9 (.slice a 0 c)).run Tryz.prog w4 = .ok (.string ⟨((M.drop off).take k).toArray⟩) w4) := fun hk0 a c w4 _ => by
  rw [hk0, List.take_zero]
  cases a with
  | none => exact Go.Lib.run_convert_nil_bytes (P := Tryz.prog) w4 80 9 5 c Tryz.underlying80 Tryz.underlying5 Tryz.underlying9
  | some a => exact run_convert_bytes_back (P := Tryz.prog) w4 80 9 5 a c [] Tryz.underlying80 Tryz.underlying5 Tryz.underlying9 (fun j hj => by simp at hj)
 obtain ⟨E, hE⟩ : ∃ E, E = off + k := ⟨_, rfl⟩
 have hoI : (off : Int) + (k : Int) = (E : Int) := by omega
 have hEl : E ≤ M.length := by omega
 have HE : Hid (E = off + k) := hE
 have HEk : Hid (k = E - off) := by show _ = _; omega
 rw [← hE] at HP
 clear K2 h3
 obtain ⟨L, hL⟩ : ∃ L, L = M.length := ⟨_, rfl⟩
 have HL : Hid (L = M.length) := hL
 rcases h2.shape with ⟨hv, hM0⟩ | ⟨g, cap, hv, hcap⟩
 ·
  have hz : M.length = 0 := by rw [hM0]; rfl
  have hk0 : k = 0 := by omega
  have ho0 : off = 0 := by omega
  rw [hv] at c0
  have HZ : Hid (_) := HC0.out hk0
  have hmz : M.length - off = 0 := by omega
  subst hk0 ho0
  rw [hmz]
  have hE0 : E = 0 := by omega
  subst hE0
  clear hv hM0 hz hmz h2 hk HC1 HC0 hle hkl hM h hE hoI hEl HE HEk
  by_cases hgt : 0 < most
  ·
   go_wp2
   go_big_quiet (fail)
   go_wp2
   go_ret
   exact (HP.out _ _ (HZ.out _ _)).1
  ·
   obtain rfl : most = 0 := by omega
   go_wp2
   go_big_quiet (fail)
   go_wp2
   go_ret
   exact (HP.out _ _ (HZ.out _ _)).1
 ·
  rw [hv, ← hL] at c0
  have HV : Hid (v = .slice (some ⟨g, 0, none⟩) L cap) := by show _ = _; rw [hv, hL]
  rw [← hL] at hcap hk hkl hM hle hEl
  rw [← hL]
  by_cases hgt : L - off < most
  ·
   have hkm : L - off = k := by omega
   rw [hkm]
   rw [hkm] at hgt
   clear hv h2 hk hL hkm h hE
   by_cases hce : off = cap
   ·
    subst hce
    have hk0 : k = 0 := by omega
    subst hk0
    have HZ : Hid (_) := HC0.out rfl
    obtain rfl : E = off := HE.out
    clear HC1 HC0 HE HEk hoI hEl
    go_wp2
    go_big_quiet (fail)
    go_wp2
    go_ret
    exact (HP.out _ _ (HZ.out _ _)).1
   ·
    have hcI : ¬ (off : Int) = (cap : Int) := by omega
    have HZ : Hid (_) := HC1.out g cap (cap - off) (by rw [HV.out, HL.out])
    clear HC1 HC0
    by_cases hk0 : k = 0
    ·
     subst hk0
     obtain rfl : E = off := HE.out
     clear HE HEk hoI hEl
     go_wp2
     go_big_quiet (fail)
     go_wp2
     go_ret
     exact (HP.out _ _ HZ.out).1
    ·
     have hkI : (0 : Int) < (k : Int) := by omega
     have HZ2 : Hid (∀ w4 : World, w4.ownsRow B 5 1 v M.length (byteVals M) → (convert 80 9 (.slice (some ⟨g, off, none⟩) (E - off) (cap - off))).run Tryz.prog w4 = .ok (.string ⟨((M.drop off).take k).toArray⟩) w4) := fun w4 ho => by
      have := HZ.out w4 ho
      rw [← HEk.out]; exact this
     clear HEk HE HZ
     go_wp2
     go_big_quiet (fail)
     go_wp2
     go_ret
     exact (HP.out _ _ HZ2.out).2 _
  ·
   have hkm : most = k := by omega
   subst hkm
   clear hv h2 hk hL h hE
   by_cases hce : off = cap
   ·
    subst hce
    have hk0 : most = 0 := by omega
    subst hk0
    have HZ : Hid (_) := HC0.out rfl
    obtain rfl : E = off := HE.out
    clear HC1 HC0 HE HEk hoI hEl
    go_wp2
    go_big_quiet (fail)
    go_wp2
    go_ret
    exact (HP.out _ _ (HZ.out _ _)).1
   ·
    have hcI : ¬ (off : Int) = (cap : Int) := by omega
    have HZ : Hid (_) := HC1.out g cap (cap - off) (by rw [HV.out, HL.out])
    clear HC1 HC0
    by_cases hk0 : most = 0
    ·
     subst hk0
     obtain rfl : E = off := HE.out
     clear HE HEk hoI hEl
     go_wp2
     go_big_quiet (fail)
     go_wp2
     go_ret
     exact (HP.out _ _ HZ.out).1
    ·
     have hkI : (0 : Int) < (most : Int) := by omega
     have HZ2 : Hid (∀ w4 : World, w4.ownsRow B 5 1 v M.length (byteVals M) → (convert 80 9 (.slice (some ⟨g, off, none⟩) (E - off) (cap - off))).run Tryz.prog w4 = .ok (.string ⟨((M.drop off).take most).toArray⟩) w4) := fun w4 ho => by
      have := HZ.out w4 ho
      rw [← HEk.out]; exact this
     clear HEk HE HZ
     go_wp2
     go_big_quiet (fail)
     go_wp2
     go_ret
     exact (HP.out _ _ HZ2.out).2 _
/- bytes.growSlice: a new row, with what was there. -/
theorem gs_idle (w : World) :
 CallsD Tryz.prog 94 #[] .returning w fun e u' w' => e = .returned (.tuple #[]) ∧ u' = .returning ∧ w' = w := by
 have hnil : ∀ w : World, (binOp BinOp.neq 20 .nilIface .nilIface).run Tryz.prog w = .ok (.bool false) w := fun _ => by kernel_rfl
 refine callsD_of_wpS Tryz.func94 rfl fun c₀ cs hu => ?_
 apply wpS_seq
 apply wpS_region
 simp [wpOpsS, go_sem, recoverD, hu, Tryz.ntmps94, Exit.thenS, hnil]
 refine wpS_of_wp ?_
 go_wp2
 cases c₀
 simp_all [bodyPostS, results, Tryz.results94]
/-- What growSlice gives: a new row of room for n more. -/
def GsP (w : World) (X : List UInt8) (n : Nat) (e : Ending) (w' : World) : Prop :=
 ∃ g cap cur, e = .returned (.slice (some ⟨g, 0, none⟩) X.length cap) ∧ w.heap.size ≤ g ∧ w'.heap[g]? = some (.cells cur 5 (0, 0)) ∧ cur.size = cap ∧ X.length + n ≤ cap ∧ cap ≤ maxLen ∧ cur.toList.take X.length = byteVals X ∧ Below w.heap.size w w'
set_option maxRecDepth 4000 in
set_option maxHeartbeats 1000000 in
theorem growSlice_any (X : List UInt8) (n : Nat) (ao : Option Addr) (cp : Nat) (w : World) (hX : ao = none → X = [] ∧ cp = 0) (hc : ∀ a, ao = some a → ∀ j (hj : j < X.length), w.cell? (a.add j) = some (.int .u8 (X[j].toNat : Int))) (hn : 1 ≤ n) (hl : X.length + n ≤ 35184372088832) (hcp : cp ≤ 35184372088832) (hxc : X.length ≤ cp) :
 Calls Tryz.prog 71 #[.slice ao X.length cp, .int .i64 (n : Int)] w (GsP w X n) := by
 obtain ⟨i0, hi0, hz0, hs0, hby⟩ := info_parts Tryz.info5
 have hmf : ∀ (fn : Fn) (first cap : Array Value) (w : World), (Instr.makeFunc fn first cap).run Tryz.prog w = .ok (.func fn first cap) w := fun _ _ _ _ => rfl
 obtain ⟨c, hcc⟩ : ∃ c, c = max (X.length + n) (2 * cp) := ⟨_, rfl⟩
 have hc1 : 1 ≤ c := by omega
 have hc2 : c ≤ 70368744177664 := by omega
 have hap := Lib.run_append_nil_zeros (P := Tryz.prog) w 80 3 80 5 i0 (.int .u8 0) .i64 .i64 Tryz.underlying80 Tryz.underlying3 hi0 hz0 c hc1 (by omega) (by omega) (by rw [hby]; omega)
 obtain ⟨K, hK⟩ : ∃ K, K = grownCap w c 0 5 := ⟨_, rfl⟩
 have hKc : c ≤ K := by rw [hK]; exact grownCap_ge _ _ _ _
 have hKm : K ≤ maxLen := by rw [hK]; exact grownCap_le_maxLen _ _ _ _ (by unfold maxLen; omega)
 rw [← hK] at hap
 obtain ⟨Z, hZ⟩ : ∃ Z, Z = (Builtin.zeroCells (Value.int IntKind.u8 0).cells c ++ Builtin.zeroCells (Value.int IntKind.u8 0).cells (K - c)) := ⟨_, rfl⟩
 rw [← hZ] at hap
 have hZs : Z.size = K := by rw [hZ, Array.size_append, size_zeroCells, size_zeroCells]; show c * 1 + (K - c) * 1 = K; omega
 have hsz : (Tryz.prog.info? 5).map (·.size) = some 1 := by rw [hi0]; simp [hs0]
 have hb1 : Below w.heap.size w (w.drew.alloc (.cells Z 5)) := ((Below.refl _ _).drew).alloc (Nat.le_refl _) _
 have hg1 : (w.drew.alloc (.cells Z 5)).heap[w.heap.size]? = some (.cells Z 5 (0, 0)) := heap_alloc_last w.drew (.cells Z 5)
 have HCC : Hid (c = max (X.length + n) (2 * cp)) := hcc
 clear hK hZ
 by_cases hx0 : X.length = 0
 ·
  have HX0 : Hid (X = []) := List.eq_nil_of_length_eq_zero hx0
  have P : GsP w X n (.returned (.slice (some ⟨w.heap.size, 0, none⟩) 0 K)) (w.drew.alloc (.cells Z 5)) := ⟨w.heap.size, K, Z, by rw [hx0], Nat.le_refl _, hg1, hZs, by have := HCC.out; omega, hKm, by rw [HX0.out]; rfl, hb1⟩
  rw [hx0] at hcc ⊢
  by_cases hcs : (n : Int) < 2 * (cp : Int)
  ·
   have hcI : 2 * (cp : Int) = (c : Int) := by omega
   clear hcc hb1 hg1 hc hX
   go_enter_defers Tryz.func71, Tryz.ntmps71
   go_wp2_with (first | (at_builtin; refine Lib.wpList_append_run _ rfl _ _ _ _ rfl _ _ rfl rfl _ _ hap ?_) | (refine wpList_copy_nothing rfl _ _ _ _ rfl 5 Tryz.underlying80 hsz _ _ _ _ _ _ rfl rfl rfl ?_) | fail)
   refine leaves_cons (f := 94) (args := #[]) (by simp) (by simp [go_sem]) ?_
   refine (gs_idle _).mono ?_
   rintro e u' w'' ⟨rfl, rfl, rfl⟩
   simp [Leaves, settle, results, Tryz.results71, go_sem]
   exact P
  ·
   have hcI : (n : Int) = (c : Int) := by omega
   have hcn : c = n := by omega
   subst hcn
   clear hcc hb1 hg1 hc hX hcI
   go_enter_defers Tryz.func71, Tryz.ntmps71
   go_wp2_with (first | (at_builtin; refine Lib.wpList_append_run _ rfl _ _ _ _ rfl _ _ rfl rfl _ _ hap ?_) | (refine wpList_copy_nothing rfl _ _ _ _ rfl 5 Tryz.underlying80 hsz _ _ _ _ _ _ rfl rfl rfl ?_) | fail)
   refine leaves_cons (f := 94) (args := #[]) (by simp) (by simp [go_sem]) ?_
   refine (gs_idle _).mono ?_
   rintro e u' w'' ⟨rfl, rfl, rfl⟩
   simp [Leaves, settle, results, Tryz.results71, go_sem]
   exact P
 ·
  obtain ⟨aa, rfl⟩ : ∃ aa, ao = some aa := by
   cases ao with
   | none => exact absurd (by rw [(hX rfl).1]; rfl) hx0
   | some aa => exact ⟨aa, rfl⟩
  have hsrc0 := hc aa rfl
  have hmin : (byteVals X).length = Nat.min X.length c := by
   rw [byteVals, List.length_map]
   exact (Nat.min_eq_left (by have := HCC.out; omega)).symm
  have hsrc : ∀ j v, (byteVals X)[j]? = some v → (w.drew.alloc (.cells Z 5)).cell? (aa.add j) = some v := fun j v hv => by
   have hj : j < X.length := by
    have := (List.getElem?_eq_some_iff.1 hv).1
    rw [byteVals, List.length_map] at this
    exact this
   have c0 := hsrc0 j hj
   have e : v = .int .u8 (X[j].toNat : Int) := by
    rw [byteVals, List.getElem?_map, List.getElem?_eq_getElem hj] at hv
    exact (Option.some.inj hv).symm
   rw [e]
   exact (World.cell?_alloc_lt w.drew _ _ (World.block_lt_of_cell? w _ c0)).trans c0
  have hbl : (byteVals X).length = X.length := by rw [byteVals, List.length_map]
  have hfit : 0 + (byteVals X).length ≤ Z.size := by rw [hbl, hZs]; have := HCC.out; omega
  have hone : ∀ v ∈ byteVals X, v.oneCell' = true := fun v hv => by
   rw [byteVals, List.mem_map] at hv
   obtain ⟨b, _, rfl⟩ := hv
   rfl
  obtain ⟨Y, hY⟩ : ∃ Y, Y = (Z.toList.take 0 ++ (byteVals X ++ Z.toList.drop (0 + (byteVals X).length))).toArray := ⟨_, rfl⟩
  have hzl : Z.toList.length = K := by rw [Array.length_toList]; exact hZs
  have hYl : Y.toList = byteVals X ++ Z.toList.drop (byteVals X).length := by rw [hY]; simp
  have hYs : Y.size = K := by
   rw [hZs] at hfit
   have e : Y.toList.length = K := by rw [hYl, List.length_append, List.length_drop, hzl]; omega
   rw [← e]; exact Array.length_toList.symm
  have hgY : ((w.drew.alloc (.cells Z 5)).setRow w.heap.size Y).heap[w.heap.size]? = some (.cells Y 5 (0, 0)) := setRow_heap _ _ Z _ 5 (0, 0) hg1
  have P : GsP w X n (.returned (.slice (some ⟨w.heap.size, 0, none⟩) X.length K)) ((w.drew.alloc (.cells Z 5)).setRow w.heap.size Y) := by
   refine ⟨w.heap.size, K, Y, rfl, Nat.le_refl _, hgY, hYs, by have := HCC.out; omega, hKm, ?_, hb1.trans ⟨rfl, rfl, rfl, by simp, fun k hk => setRow_other _ _ _ _ (by omega)⟩⟩
   rw [hYl, ← hbl, List.take_left']
   rfl
  rw [hY] at P
  obtain ⟨L, hL⟩ : ∃ L, L = X.length := ⟨_, rfl⟩
  rw [← hL] at hcc hl hxc hx0 hmin P
  rw [hbl, ← hL] at P
  simp only [List.take_zero, List.nil_append, Nat.zero_add] at P
  rw [← hL]
  have hLc : L ≤ c := by omega
  have hbl' : (byteVals X).length = L := by rw [hbl, hL]
  clear hsrc0 hc hX hgY hYs hY hbl hL HCC hYl hzl
  by_cases hcs : (L : Int) + (n : Int) < 2 * (cp : Int)
  ·
   have hcI : 2 * (cp : Int) = (c : Int) := by omega
   have hcs2 : (L : Int) + (n : Int) < (c : Int) := by omega
   clear hcc hb1
   go_enter_defers Tryz.func71, Tryz.ntmps71
   go_wp2_with (first | (at_builtin; refine Lib.wpList_append_run _ rfl _ _ _ _ rfl _ _ rfl rfl _ _ hap ?_) | (refine wpList_copy_own rfl _ _ _ _ rfl 5 Tryz.underlying80 hsz w.heap.size 0 c K aa L cp rfl rfl Z 5 hg1 (byteVals X) hmin hsrc hfit hone ?_) | fail)
   refine leaves_cons (f := 94) (args := #[]) (by simp) (by simp [go_sem]) ?_
   refine (gs_idle _).mono ?_
   rintro e u' w'' ⟨rfl, rfl, rfl⟩
   simp [Leaves, settle, results, Tryz.results71, go_sem]
   exact P
  ·
   have hcI : (L : Int) + (n : Int) = (c : Int) := by omega
   have hcs2 : ¬ (c : Int) < 2 * (cp : Int) := by omega
   clear hcc hb1 hcs
   go_enter_defers Tryz.func71, Tryz.ntmps71
   go_wp2_with (first | (at_builtin; refine Lib.wpList_append_run _ rfl _ _ _ _ rfl _ _ rfl rfl _ _ hap ?_) | (refine wpList_copy_own rfl _ _ _ _ rfl 5 Tryz.underlying80 hsz w.heap.size 0 c K aa L cp rfl rfl Z 5 hg1 (byteVals X) hmin hsrc hfit hone ?_) | fail)
   refine leaves_cons (f := 94) (args := #[]) (by simp) (by simp [go_sem]) ?_
   refine (gs_idle _).mono ?_
   rintro e u' w'' ⟨rfl, rfl, rfl⟩
   simp [Leaves, settle, results, Tryz.results71, go_sem]
   exact P
/-- The same, its numbers spelt otherwise. -/
theorem growSlice_as (X : List UInt8) (n L : Nat) (N : Int) (ao : Option Addr) (cp : Nat) (w : World) (hL : L = X.length) (hN : N = (n : Int)) (hX : ao = none → X = [] ∧ cp = 0) (hc : ∀ a, ao = some a → ∀ j (hj : j < X.length), w.cell? (a.add j) = some (.int .u8 (X[j].toNat : Int))) (hn : 1 ≤ n) (hl : X.length + n ≤ 35184372088832) (hcp : cp ≤ 35184372088832) (hxc : X.length ≤ cp) :
 Calls Tryz.prog 71 #[.slice ao L cp, .int .i64 N] w (GsP w X n) := by
 subst hL hN
 exact growSlice_any X n ao cp w hX hc hn hl hcp hxc
/- bytes.Buffer: room for more, and what is written. -/
/-- There is room for n more behind M1, in a row g. -/
structure Room (B : Nat) (w : World) (b o : Nat) (T : TypeId) (nn : Nat) (f : Nat → Value) (n : Nat) (M1 : List UInt8) (off1 : Nat) (lr1 : Int) (g cap : Nat) (cur : Array Value) : Prop where
 row : w.rowIs b T nn (updB f o (.slice (some ⟨g, 0, none⟩) (M1.length + n) cap) off1 lr1)
 room : o + 3 ≤ nn
 blk : w.heap[g]? = some (.cells cur 5 (0, 0))
 size : cur.size = cap
 le : M1.length + n ≤ cap
 max : cap ≤ maxLen
 take : cur.toList.take M1.length = byteVals M1
 base : B ≤ g
 ne : g ≠ b
 off : off1 ≤ M1.length
/-- What tryGrowByReslice answers. -/
def TryP (B : Nat) (w : World) (b o : Nat) (T : TypeId) (nn : Nat) (f : Nat → Value) (v : Value) (M : List UInt8) (off : Nat) (lr : Int) (n : Nat) (e : Ending) (w' : World) : Prop :=
 (e = .returned (.tuple #[.int .i64 (M.length : Nat), .bool true]) ∧ Kp w w' b v ∧ ∃ g cap cur, v.ownBlock = some g ∧ Room B w' b o T nn f n M off lr g cap cur) ∨
 (e = .returned (.tuple #[.int .i64 0, .bool false]) ∧ (∃ q, w' = w.drewN q) ∧ ((v = .slice none 0 0 ∧ M = []) ∨ ∃ g cap, v = .slice (some ⟨g, 0, none⟩) M.length cap ∧ cap < M.length + n))
set_option maxRecDepth 4000 in
set_option maxHeartbeats 1000000 in
theorem tryGrow_any (B b o : Nat) (T : TypeId) (nn : Nat) (f : Nat → Value) (v : Value) (off : Nat) (lr : Int) (M : List UInt8) (n : Nat) (w : World) (h : Bf B w b o T nn f v off lr M) (hn : 1 ≤ n) (_hM : M.length + n ≤ 35184372088832) :
 Calls Tryz.prog 55 #[.pointer (some ⟨b, o, none⟩), .int .i64 (n : Int)] w (TryP B w b o T nn f v M off lr n) := by
 have c0 := h.c0
 have f0 := h.fz o
 obtain ⟨hl, q⟩ := h.own
 rcases q with ⟨hv, hz⟩ | ⟨g, cap, cur, hv, hg, hh, hc, hcm, hcs, htk⟩
 ·
  have hM0 : M = [] := List.eq_nil_of_length_eq_zero hz
  rw [hv] at c0
  have HP : Hid (∀ q, TryP B w b o T nn f v M off lr n (.returned (.tuple #[.int .i64 0, .bool false])) (w.drewN q)) := fun q => Or.inr ⟨rfl, ⟨q, rfl⟩, Or.inl ⟨hv, hM0⟩⟩
  have hnI : ¬ (n : Int) ≤ 0 := by omega
  clear h hv hM0 hz hl _hM
  go_enter Tryz.func55, Tryz.ntmps55
  go_wp2
  try go_big_quiet (fail)
  go_wp2
  go_ret2
  first | exact HP.out 0 | exact HP.out _
 ·
  rw [hv] at c0
  by_cases hfit : M.length + n ≤ cap
  ·
   have hgb : g ≠ b := fun e => h.ne (by rw [hv, e]; rfl)
   have HR : Hid (∀ q, TryP B w b o T nn f v M off lr n (.returned (.tuple #[.int .i64 (M.length : Nat), .bool true])) ((w.drewN q).setCell ⟨b, o, none⟩ (.slice (some ⟨g, 0, none⟩) (M.length + n) cap))) := fun q => by
    refine Or.inl ⟨rfl, ((Kp.refl w b v).drewN q).set o _, g, cap, cur, by rw [hv]; rfl, ⟨?_, h.room, ?_, by rw [hcs, Nat.mul_one], hfit, hcm, ?_, hg, hgb, h.le⟩⟩
    ·
     refine ((h.drewN q).row.set o _).congr (fun i _ => ?_)
     rcases (by omega : i = o ∨ i = o + 1 ∨ i = o + 2 ∨ (i ≠ o ∧ i ≠ o + 1 ∧ i ≠ o + 2)) with e | e | e | ⟨e0, e1, e2⟩
     · subst e; rw [updB_0, if_pos rfl]
     · subst e; rw [updB_1, if_neg (by omega), h.f1]
     · subst e; rw [updB_2, if_neg (by omega), h.f2]
     · rw [updB_o e0 e1 e2, if_neg e0]
    · rw [Below.heap_setCell _ _ _ _ hgb]; exact hh
    · rw [Nat.mul_one] at htk; exact htk
   have hnI : (n : Int) ≤ (cap : Int) - (M.length : Int) := by omega
   obtain ⟨E, hE⟩ : ∃ E, E = M.length + n := ⟨_, rfl⟩
   have hlI : (M.length : Int) + (n : Int) = (E : Int) := by omega
   have hEc : E ≤ cap := by omega
   rw [← hE] at HR
   have hcm2 : cap ≤ 9223372036854775807 := hcm
   clear h hv hl _hM htk hh hE hfit hgb
   generalize M.length = m at c0 hc hnI hlI HR
   go_enter Tryz.func55, Tryz.ntmps55
   go_wp2
   try go_big_quiet (fail)
   go_wp2
   try go_big_quiet (fail)
   go_wp2
   go_ret2
   first | exact HR.out 0 | exact HR.out _
  ·
   have HP : Hid (∀ q, TryP B w b o T nn f v M off lr n (.returned (.tuple #[.int .i64 0, .bool false])) (w.drewN q)) := fun q => Or.inr ⟨rfl, ⟨q, rfl⟩, Or.inr ⟨g, cap, hv, by omega⟩⟩
   have hnI : ¬ (n : Int) ≤ (cap : Int) - (M.length : Int) := by omega
   have hcm2 : cap ≤ 9223372036854775807 := hcm
   clear h hv hl _hM htk hh
   generalize M.length = m at c0 hc hnI
   go_enter Tryz.func55, Tryz.ntmps55
   go_wp2
   try go_big_quiet (fail)
   go_wp2
   go_ret2
   first | exact HP.out 0 | exact HP.out _
set_option maxRecDepth 4000 in
set_option maxHeartbeats 1000000 in
theorem reset_any (B b o : Nat) (T : TypeId) (nn : Nat) (f : Nat → Value) (off : Nat) (lr : Int) (M : List UInt8) (g cap : Nat) (w : World) (h : Bf B w b o T nn f (.slice (some ⟨g, 0, none⟩) M.length cap) off lr M) :
 Calls Tryz.prog 70 #[.pointer (some ⟨b, o, none⟩)] w fun e w' => e = .returned (.tuple #[]) ∧ Bf B w' b o T nn (updB f o (.slice (some ⟨g, 0, none⟩) 0 cap) 0 0) (.slice (some ⟨g, 0, none⟩) 0 cap) 0 0 [] ∧ Kp w w' b (.slice (some ⟨g, 0, none⟩) M.length cap) := by
 have c0 := h.c0
 have c1 := h.c1
 have c2 := h.c2
 have f0 := h.fz o
 have f1 := h.fz (o + 1)
 have f2 := h.fz (o + 2)
 have hown : w.ownsRow B 5 1 (.slice (some ⟨g, 0, none⟩) 0 cap) ([] : List UInt8).length (byteVals []) := by
  obtain ⟨_, q⟩ := h.own
  rcases q with ⟨q, _⟩ | ⟨g2, cap2, cur, hv, hg, hh, hc, hcm, hcs, htk⟩
  · simp at q
  ·
   simp only [Value.slice.injEq, Option.some.injEq, Addr.mk.injEq, and_true, true_and] at hv
   obtain ⟨e1, e2⟩ := hv
   subst e1 e2
   exact ⟨rfl, Or.inr ⟨g, cap, cur, rfl, hg, hh, Nat.zero_le _, hcm, hcs, by simp [byteVals]⟩⟩
 have hne : (Value.slice (some ⟨g, 0, none⟩) 0 cap).ownBlock ≠ some b := h.ne
 have R : Bf B (((w.setCell ⟨b, o, none⟩ (.slice (some ⟨g, 0, none⟩) 0 cap)).setCell ⟨b, o + 1, none⟩ (.int .i64 0)).setCell ⟨b, o + 2, none⟩ (.int .i8 0)) b o T nn (updB f o (.slice (some ⟨g, 0, none⟩) 0 cap) 0 0) (.slice (some ⟨g, 0, none⟩) 0 cap) 0 0 [] := by
  refine ⟨(((h.row.set o _).set (o + 1) _).set (o + 2) _).congr (fun i _ => ?_), h.room, updB_0 _ _ _ _ _, updB_1 _ _ _ _ _, updB_2 _ _ _ _ _, owns_setB (owns_setB (owns_setB hown hne _ _) hne _ _) hne _ _, Nat.zero_le _, hne⟩
  rcases (by omega : i = o ∨ i = o + 1 ∨ i = o + 2 ∨ (i ≠ o ∧ i ≠ o + 1 ∧ i ≠ o + 2)) with e | e | e | ⟨e0, e1, e2⟩
  · subst e; rw [updB_0, if_neg (by omega), if_neg (by omega), if_pos rfl]
  · subst e; rw [updB_1, if_neg (by omega), if_pos rfl]; rfl
  · subst e; rw [updB_2, if_pos rfl]
  · rw [updB_o e0 e1 e2, if_neg e2, if_neg e1, if_neg e0]
 have K : Kp w (((w.setCell ⟨b, o, none⟩ (.slice (some ⟨g, 0, none⟩) 0 cap)).setCell ⟨b, o + 1, none⟩ (.int .i64 0)).setCell ⟨b, o + 2, none⟩ (.int .i8 0)) b (.slice (some ⟨g, 0, none⟩) M.length cap) := (((Kp.refl _ _ _).set o _).set (o + 1) _).set (o + 2) _
 clear h hown hne
 generalize M.length = m at c0 K
 go_enter Tryz.func70, Tryz.ntmps70
 go_wp2
 go_end0
 exact ⟨rfl, R, K⟩
/-- What grow answers. -/
def GrowP (B : Nat) (w : World) (b o : Nat) (T : TypeId) (nn : Nat) (f : Nat → Value) (v : Value) (M : List UInt8) (off : Nat) (n : Nat) (e : Ending) (w' : World) : Prop :=
 ∃ M1 off1 lr1 g cap cur, e = .returned (.int .i64 (M1.length : Nat)) ∧ M1.drop off1 = M.drop off ∧ M1.length ≤ M.length ∧ Kp w w' b v ∧ (v.ownBlock = some g ∨ w.heap.size ≤ g) ∧ Room B w' b o T nn f n M1 off1 lr1 g cap cur
theorem room_upd {B : Nat} {w : World} {b o : Nat} {T : TypeId} {nn : Nat} {f : Nat → Value} {v : Value} {k : Nat} {lr : Int} {n : Nat} {M1 : List UInt8} {off1 : Nat} {lr1 : Int} {g cap : Nat} {cur : Array Value} (h : Room B w b o T nn (updB f o v k lr) n M1 off1 lr1 g cap cur) : Room B w b o T nn f n M1 off1 lr1 g cap cur :=
 ⟨by have := h.row; rw [updB_updB] at this; exact this, h.room, h.blk, h.size, h.le, h.max, h.take, h.base, h.ne, h.off⟩
/- bytes.Buffer's grow. -/
theorem make_64 (n : Nat) (h : n ≤ 64) (W : World) : (Instr.makeSlice 80 (.int .i64 (n : Int)) (.int .i64 64)).run Tryz.prog W = .ok (.slice (some ⟨W.heap.size, 0, none⟩) n 64) (W.alloc (.cells (madeCells #[.int .u8 0] 64) 5)) := by
 obtain ⟨i0, hi0, hz0, hs0, hby⟩ := info_parts Tryz.info5
 have h := run_make (P := Tryz.prog) W 80 5 i0 (.int .u8 0) Tryz.underlying80 hi0 hz0 .i64 .i64 (n : Int) 64 (by omega) (by omega) (by rw [hby]; omega) (by omega)
 have e : ((64 : Int).toNat * i0.size) = 64 := by rw [hs0]; rfl
 rw [e] at h
 simpa [Value.cells] using h
theorem eql_nil (w : World) : (binOp BinOp.eql 80 (.slice none 0 0) (.slice none 0 0)).run Tryz.prog w = .ok (.bool true) w := by kernel_rfl
theorem eql_some (w : World) (a : Addr) (n c : Nat) : (binOp BinOp.eql 80 (.slice (some a) n c) (.slice none 0 0)).run Tryz.prog w = .ok (.bool false) w := Lib.run_eql_slice_some_nil (P := Tryz.prog) w a n c Tryz.underlying80
section
variable {B : Nat} {w : World} {b o : Nat} {T : TypeId} {nn : Nat} {f : Nat → Value} {v : Value} {off : Nat} {lr : Int} {M : List UInt8}
/-- Room in a new row, once its slice and the number are laid. -/
theorem room_new {w1 : World} (hrow : w1.rowIs b T nn f) (hroom : o + 3 ≤ nn) (hf2 : f (o + 2) = .int .i8 lr) (M1 : List UInt8) (n g cap : Nat) (cur : Array Value) (hblk : w1.heap[g]? = some (.cells cur 5 (0, 0))) (hs : cur.size = cap) (hle : M1.length + n ≤ cap) (hm : cap ≤ maxLen) (ht : cur.toList.take M1.length = byteVals M1) (hB : B ≤ g) (hg : g ≠ b) :
 Room B ((w1.setCell ⟨b, o + 1, none⟩ (.int .i64 0)).setCell ⟨b, o, none⟩ (.slice (some ⟨g, 0, none⟩) (M1.length + n) cap)) b o T nn f n M1 0 lr g cap cur := by
 refine ⟨((hrow.set (o + 1) _).set o _).congr (fun i _ => ?_), hroom, ?_, hs, hle, hm, ht, hB, hg, Nat.zero_le _⟩
 ·
  rcases (by omega : i = o ∨ i = o + 1 ∨ i = o + 2 ∨ (i ≠ o ∧ i ≠ o + 1 ∧ i ≠ o + 2)) with e | e | e | ⟨e0, e1, e2⟩
  · subst e; rw [updB_0, if_pos rfl]
  · subst e; rw [updB_1, if_neg (by omega), if_pos rfl]; rfl
  · subst e; rw [updB_2, if_neg (by omega), if_neg (by omega), hf2]
  · rw [updB_o e0 e1 e2, if_neg e0, if_neg e1]
 · rw [Below.heap_setCell _ _ _ _ hg, Below.heap_setCell _ _ _ _ hg]; exact hblk
/-- .. and behind growSlice, whose slice is laid first. -/
theorem room_grown {w1 : World} (h : Bf B w1 b o T nn f v off lr M) (M1 : List UInt8) (n g cap : Nat) (x : Value) (cur : Array Value) (hblk : w1.heap[g]? = some (.cells cur 5 (0, 0))) (hs : cur.size = cap) (hle : M1.length + n ≤ cap) (hm : cap ≤ maxLen) (ht : cur.toList.take M1.length = byteVals M1) (hB : B ≤ g) (hg : g ≠ b) :
 Room B (((w1.setCell ⟨b, o, none⟩ x).setCell ⟨b, o + 1, none⟩ (.int .i64 0)).setCell ⟨b, o, none⟩ (.slice (some ⟨g, 0, none⟩) (M1.length + n) cap)) b o T nn f n M1 0 lr g cap cur := by
 refine ⟨(((h.row.set o x).set (o + 1) _).set o _).congr (fun i _ => ?_), h.room, ?_, hs, hle, hm, ht, hB, hg, Nat.zero_le _⟩
 ·
  rcases (by omega : i = o ∨ i = o + 1 ∨ i = o + 2 ∨ (i ≠ o ∧ i ≠ o + 1 ∧ i ≠ o + 2)) with e | e | e | ⟨e0, e1, e2⟩
  · subst e; rw [updB_0, if_pos rfl]
  · subst e; rw [updB_1, if_neg (by omega), if_pos rfl]; rfl
  · subst e; rw [updB_2, if_neg (by omega), if_neg (by omega), if_neg (by omega), h.f2]
  · rw [updB_o e0 e1 e2, if_neg e0, if_neg e1, if_neg e0]
 · rw [Below.heap_setCell _ _ _ _ hg, Below.heap_setCell _ _ _ _ hg, Below.heap_setCell _ _ _ _ hg]; exact hblk
theorem kp_of_belowD {w w1 : World} (hb : Below w.heap.size w w1) (gx : Nat) (v : Value) : Kp w w1 gx v := ⟨hb.os, hb.tape, hb.output, hb.size, fun b h _ _ => hb.block b h⟩
end
set_option maxRecDepth 4000 in
set_option maxHeartbeats 1000000 in
theorem grow_nil (B b o : Nat) (T : TypeId) (nn : Nat) (f : Nat → Value) (lr : Int) (n : Nat) (w : World) (h : Bf B w b o T nn f (.slice none 0 0) 0 lr []) (hB : B ≤ w.heap.size) (hn : 1 ≤ n) (hl : n ≤ 17592186044416) :
 Calls Tryz.prog 56 #[.pointer (some ⟨b, o, none⟩), .int .i64 (n : Int)] w (GrowP B w b o T nn f (.slice none 0 0) [] 0 n) := by
 have HL : Hid (_) := blen_any B b o T nn f _ 0 lr [] w h (by simp)
 have c0 := h.c0
 have c1 := h.c1
 go_enter Tryz.func56, Tryz.ntmps56
 go_wp2_with fail
 refine Calls.mono HL.out ?_
 rintro e w1 ⟨rfl, q1, hw1⟩
 have h1 : Bf B w1 b o T nn f (.slice none 0 0) 0 lr [] := by rw [hw1]; exact h.drewN q1
 have d0 := h1.c0
 have d1 := h1.c1
 have hK1 : Kp w w1 b (.slice none 0 0) := by rw [hw1]; exact (Kp.refl _ _ _).drewN q1
 clear HL hw1 h c0 c1
 go_wp2_with fail
 refine (tryGrow_any B b o T nn f _ 0 lr [] n w1 h1 hn (by simp; omega)).mono ?_
 rintro e w2 (⟨rfl, k2, g, cap, cur, hg, _⟩ | ⟨rfl, ⟨q2, hw2⟩, _⟩)
 · simp [Value.ownBlock] at hg
 have h2 : Bf B w2 b o T nn f (.slice none 0 0) 0 lr [] := by rw [hw2]; exact h1.drewN q2
 have hK2 : Kp w w2 b (.slice none 0 0) := by rw [hw2]; exact hK1.drewN q2
 have e0 := h2.c0
 have e1 := h2.c1
 have z0 := h2.fz o
 have z1 := h2.fz (o + 1)
 clear h1 d0 d1 hK1 hw2
 have hz2 := hK2.size
 have hbl := h2.row.lt
 have hnl := eql_nil
 by_cases hn64 : n ≤ 64
 ·
  have hnI : (n : Int) ≤ 64 := by omega
  have hmk := make_64 n hn64
  have hMs : (madeCells #[.int .u8 0] 64).size = 64 := size_madeCells _ _
  have P : GrowP B w b o T nn f (.slice none 0 0) [] 0 n (.returned (.int .i64 0)) ((w2.setCell ⟨b, o, none⟩ (.slice (some ⟨w2.heap.size, 0, none⟩) n 64)).alloc (.cells (madeCells #[.int .u8 0] 64) 5)) := by
   have hsz : (w2.setCell ⟨b, o, none⟩ (.slice (some ⟨w2.heap.size, 0, none⟩) n 64)).heap.size = w2.heap.size := by simp [World.setCell]
   refine ⟨[], 0, lr, w2.heap.size, 64, madeCells #[.int .u8 0] 64, rfl, rfl, Nat.le_refl _, (hK2.set o _).trans (Kp.alloc _ _ b _), Or.inr hz2, ⟨?_, h2.room, ?_, hMs, by show 0 + n ≤ 64; omega, by unfold maxLen; omega, rfl, by omega, by omega, Nat.le_refl _⟩⟩
   ·
    refine ((h2.row.set o _).alloc _).congr (fun i _ => ?_)
    rcases (by omega : i = o ∨ i = o + 1 ∨ i = o + 2 ∨ (i ≠ o ∧ i ≠ o + 1 ∧ i ≠ o + 2)) with e | e | e | ⟨e0, e1, e2⟩
    · subst e; rw [updB_0, if_pos rfl]; simp
    · subst e; rw [updB_1, if_neg (by omega), h2.f1]
    · subst e; rw [updB_2, if_neg (by omega), h2.f2]
    · rw [updB_o e0 e1 e2, if_neg e0]
   ·
    have := heap_alloc_last (w2.setCell ⟨b, o, none⟩ (.slice (some ⟨w2.heap.size, 0, none⟩) n 64)) (.cells (madeCells #[.int .u8 0] 64) 5)
    rw [hsz] at this
    exact this
  generalize madeCells #[.int .u8 0] 64 = Mz at hmk P
  clear h2 hK2 hMs hl
  go_wp2
  go_ret
  exact P
 ·
  have hnI : ¬ (n : Int) ≤ 64 := by omega
  have hl2 : ([] : List UInt8).length + n ≤ 35184372088832 := by simp; omega
  have hwn : IntKind.i64.wrap (n : Int) = (n : Int) := by rw [IntKind.wrap_i64]; omega
  go_wp2_with fail
  go_region_with (go_at_call 71; refine (growSlice_as [] n 0 (n : Int) none 0 _ rfl rfl (fun _ => ⟨rfl, rfl⟩) (fun a e => by cases e) hn hl2 (by omega) (Nat.le_refl _)).mono ?_; rintro e w3 ⟨g, cap, cur, rfl, hg, hblk, hs, hle, hm, ht, hb⟩; have h3 : Bf B w3 b o T nn f (.slice none 0 0) 0 lr [] := h2.frame (hb.block b hbl) (fun g e => by simp [Value.ownBlock] at e); have e0' := h3.c0; have z0' := h3.fz o)
  all_goals
   have hgb : g ≠ b := by have := hbl; have := hg; simp at *; omega
   have hBg : B ≤ g := by have := hg; simp at *; omega
   have K3 : Kp w w3 b (.slice none 0 0) := hK2.trans (kp_of_belowD (w := w2) ⟨hb.os, hb.tape, hb.output, hb.size, hb.block⟩ b _)
   have R := room_grown h3 [] n g cap (.slice (some ⟨g, 0, none⟩) 0 cap) cur hblk hs hle hm ht hBg hgb
   have hgw : w.heap.size ≤ g := Nat.le_trans hz2 hg
   have P : GrowP B w b o T nn f (.slice none 0 0) [] 0 n (.returned (.int .i64 0)) (((w3.setCell ⟨b, o, none⟩ (.slice (some ⟨g, 0, none⟩) 0 cap)).setCell ⟨b, o + 1, none⟩ (.int .i64 0)).setCell ⟨b, o, none⟩ (.slice (some ⟨g, 0, none⟩) n cap)) := by
    refine ⟨[], 0, lr, g, cap, cur, rfl, rfl, Nat.le_refl _, ((K3.set o _).set (o + 1) _).set o _, Or.inr hgw, ?_⟩
    have e : ([] : List UInt8).length + n = n := by simp
    rw [e] at R
    exact R
   have hs4 := (h3.row.set o (.slice (some ⟨g, 0, none⟩) 0 cap))
   have y0 : (w3.setCell ⟨b, o, none⟩ (.slice (some ⟨g, 0, none⟩) 0 cap)).cell? ⟨b, o, none⟩ = some (.slice (some ⟨g, 0, none⟩) 0 cap) := by rw [hs4.cell (by have := h3.room; omega), if_pos rfl]
   have y1 : (w3.setCell ⟨b, o, none⟩ (.slice (some ⟨g, 0, none⟩) 0 cap)).cell? ⟨b, o + 1, none⟩ = some (.int .i64 0) := by rw [hs4.cell (by have := h3.room; omega), if_neg (by omega), h3.f1]; rfl
   have x0 := hs4.frozen o
   have x1 := hs4.frozen (o + 1)
   have hnc : n ≤ cap := by simpa using hle
   have hcm : cap ≤ 9223372036854775807 := hm
   clear hs4 R K3 h3 hb hblk hs ht h2 hK2 e0' z0' e0 e1 z0 z1
   generalize w3.setCell ⟨b, o, none⟩ (.slice (some ⟨g, 0, none⟩) 0 cap) = w4 at y0 y1 x0 x1 P ⊢
   go_wp2
   go_ret
   exact P
/- bytes.Buffer's grow, where there is a row: a new one. -/
set_option maxRecDepth 4000 in
set_option maxHeartbeats 2000000 in
theorem grow_more (B b o : Nat) (T : TypeId) (nn : Nat) (f : Nat → Value) (off : Nat) (lr : Int) (M : List UInt8) (n g0 cap0 : Nat) (w : World) (h : Bf B w b o T nn f (.slice (some ⟨g0, 0, none⟩) M.length cap0) off lr M) (hB : B ≤ w.heap.size) (hn : 1 ≤ n) (hl : M.length + n ≤ 17592186044416) (hk : off < M.length) (hsl : ¬ (n : Int) ≤ (cap0 : Int) / 2 - ((M.length - off : Nat) : Int)) :
 Calls Tryz.prog 56 #[.pointer (some ⟨b, o, none⟩), .int .i64 (n : Int)] w (GrowP B w b o T nn f (.slice (some ⟨g0, 0, none⟩) M.length cap0) M off n) := by
 have HL : Hid (_) := blen_any B b o T nn f _ off lr M w h (by omega)
 have hle := h.le
 obtain ⟨mm, hmm⟩ : ∃ mm, mm = M.length - off := ⟨_, rfl⟩
 rw [← hmm] at HL hsl
 have HMM : Hid (mm = M.length - off) := hmm
 have hnot : ¬ (mm = 0 ∧ off ≠ 0) := by omega
 clear hmm
 go_enter Tryz.func56, Tryz.ntmps56
 go_wp2_with fail
 refine Calls.mono HL.out ?_
 rintro e w1 ⟨rfl, q1, hw1⟩
 have h1 : Bf B w1 b o T nn f (.slice (some ⟨g0, 0, none⟩) M.length cap0) off lr M := by rw [hw1]; exact h.drewN q1
 have hK1 : Kp w w1 b (.slice (some ⟨g0, 0, none⟩) M.length cap0) := by rw [hw1]; exact (Kp.refl _ _ _).drewN q1
 have d1 := h1.c1
 have HT : Hid (_) := tryGrow_any B b o T nn f _ off lr M n w1 h1 hn (by omega)
 clear HL hw1 h
 have HR : Hid (∀ w2, Kp w1 w2 b (.slice (some ⟨g0, 0, none⟩) M.length cap0) → (∃ g cap cur, (Value.slice (some ⟨g0, 0, none⟩) M.length cap0).ownBlock = some g ∧ Room B w2 b o T nn f n M off lr g cap cur) → GrowP B w b o T nn f (.slice (some ⟨g0, 0, none⟩) M.length cap0) M off n (.returned (.int .i64 (M.length : Nat))) w2) := by
  rintro w2 k2 ⟨g, cap, cur, hg, hr⟩
  exact ⟨M, off, lr, g, cap, cur, rfl, rfl, Nat.le_refl _, hK1.trans k2, Or.inl hg, hr⟩
 have hm0 : mm ≠ 0 := by have := HMM.out; omega
 have hmI : ((mm : Int) == 0) = false := by rw [beq_eq_false_iff_ne]; omega
 go_wp2_with fail
 refine Calls.mono HT.out ?_
 rintro e w2 (⟨rfl, k2, hr⟩ | ⟨rfl, ⟨q2, hw2⟩, hcc⟩)
 ·
  have P := HR.out w2 k2 hr
  clear HR HT hr h1
  go_wp2
  go_ret
  exact P
 ·
  have h2 : Bf B w2 b o T nn f (.slice (some ⟨g0, 0, none⟩) M.length cap0) off lr M := by rw [hw2]; exact h1.drewN q2
  have hK2 : Kp w w2 b (.slice (some ⟨g0, 0, none⟩) M.length cap0) := by rw [hw2]; exact hK1.drewN q2
  have hcap : cap0 < M.length + n := by
   rcases hcc with ⟨e, _⟩ | ⟨g, cap, e, hlt⟩
   · simp at e
   ·
    simp only [Value.slice.injEq] at e
    omega
  have e0 := h2.c0
  have e1 := h2.c1
  have hnl : ∀ w : World, _ := fun w => eql_some w ⟨g0, 0, none⟩ M.length cap0
  clear hcc hw2 h1 hK1 HT HR
  obtain ⟨hlw, hq⟩ := h2.own
  rcases hq with ⟨hq, _⟩ | ⟨g2, cap2, cur, hv, hg, hh, hc, hcm, hcs, htk⟩
  · simp at hq
  simp only [Value.slice.injEq, Option.some.injEq, Addr.mk.injEq, and_true, true_and] at hv
  obtain ⟨ev1, ev2⟩ := hv
  subst ev1 ev2
  rw [Nat.mul_one] at hcs htk
  have hgb : g0 ≠ b := fun e => h2.ne (by rw [e]; rfl)
  have hmm := HMM.out
  have hmb : mm ≤ 35184372088832 := by omega
  have hX : (M.drop off).length = mm := by rw [List.length_drop]; omega
  have hco : ¬ cap0 = off := by omega
  have hcells : ∀ w4 : World, w4.heap[g0]? = w2.heap[g0]? → ∀ j (hj : j < (M.drop off).length), w4.cell? ((⟨g0, off, none⟩ : Addr).add j) = some (.int .u8 ((M.drop off)[j].toNat : Int)) := fun w4 he j hj => by
   have hj2 : off + j < M.length := by rw [hX] at hj; omega
   have cc := h2.own.cells (g := g0) rfl (off + j) _ (byteVals_get M (off + j) hj2)
   rw [addr_add0] at cc
   rw [Addr.add_mid]
   have e2 : M.getD (off + j) 0 = (M.drop off)[j] := by rw [List.getD_eq_getElem?_getD, List.getElem?_eq_getElem hj2, List.getElem_drop]; rfl
   rw [← e2]
   simp only [World.cell?] at cc ⊢
   rw [he]; exact cc
  obtain ⟨E, hE⟩ : ∃ E, E = off + n := ⟨_, rfl⟩
  have hEI : (off : Int) + (n : Int) = (E : Int) := by omega
  have hwn : IntKind.i64.wrap (E : Int) = (E : Int) := by rw [IntKind.wrap_i64]; omega
  have hmx : ¬ (9223372036854775807 : Int) - (cap0 : Int) - (n : Int) < (cap0 : Int) := by omega
  have hbl := h2.row.lt
  have hgl : g0 < w2.heap.size := (h2.own.lt g0 rfl).2
  have hXl : (M.drop off).length + E ≤ 35184372088832 := by rw [hX]; omega
  have hXc : (M.drop off).length ≤ cap0 - off := by rw [hX]; omega
  have HX : Hid ((M.drop off).length = mm) := hX
  have HE : Hid (E = off + n) := hE
  have hE1 : 1 ≤ E := by omega
  have HXl : Hid (_) := hXl
  have HXc : Hid (_) := hXc
  have hcb : cap0 ≤ 35184372088832 := by omega
  clear hX hE hmm hXl hXc htk hcs hlw
  go_wp2_with fail
  go_region_with (go_at_call 71; refine (growSlice_as (M.drop off) E (M.length - off) (E : Int) (some ⟨g0, off, none⟩) (cap0 - off) _ (by rw [List.length_drop]) rfl (fun e => by cases e) (fun a e => by cases e; exact hcells _ rfl) hE1 HXl.out (by omega) HXc.out).mono ?_; rintro e w3 ⟨g, cap, cur3, rfl, hg3, hblk, hs3, hle3, hm3, ht3, hb⟩; have h3 : Bf B w3 b o T nn f (.slice (some ⟨g0, 0, none⟩) M.length cap0) off lr M := h2.frame (hb.block b hbl) (fun g e => by cases e; exact hb.block g0 hgl); have e0' := h3.c0; have z0' := h3.fz o)
  all_goals
   have hgb3 : g ≠ b := by have := hbl; have := hg3; simp at *; omega
   have hgw : w.heap.size ≤ g := Nat.le_trans hK2.size hg3
   have K3 : Kp w w3 b (.slice (some ⟨g0, 0, none⟩) M.length cap0) := hK2.trans (kp_of_belowD (w := w2) ⟨hb.os, hb.tape, hb.output, hb.size, hb.block⟩ b _)
   have hle4 : (M.drop off).length + n ≤ cap := by have := HE.out; omega
   have R := room_grown h3 (M.drop off) n g cap (.slice (some ⟨g, 0, none⟩) mm cap) cur3 hblk hs3 hle4 hm3 ht3 (by omega) hgb3
   obtain ⟨F, hF⟩ : ∃ F, F = mm + n := ⟨_, rfl⟩
   have P : GrowP B w b o T nn f (.slice (some ⟨g0, 0, none⟩) M.length cap0) M off n (.returned (.int .i64 (mm : Nat))) (((w3.setCell ⟨b, o, none⟩ (.slice (some ⟨g, 0, none⟩) mm cap)).setCell ⟨b, o + 1, none⟩ (.int .i64 0)).setCell ⟨b, o, none⟩ (.slice (some ⟨g, 0, none⟩) F cap)) := by
    refine ⟨M.drop off, 0, lr, g, cap, cur3, by rw [HX.out], rfl, by rw [HX.out]; have := HMM.out; omega, ((K3.set o _).set (o + 1) _).set o _, Or.inr hgw, ?_⟩
    rw [HX.out, ← hF] at R
    exact R
   have hs4 := (h3.row.set o (.slice (some ⟨g, 0, none⟩) mm cap))
   have y0 : (w3.setCell ⟨b, o, none⟩ (.slice (some ⟨g, 0, none⟩) mm cap)).cell? ⟨b, o, none⟩ = some (.slice (some ⟨g, 0, none⟩) mm cap) := by rw [hs4.cell (by have := h3.room; omega), if_pos rfl]
   have y1 : (w3.setCell ⟨b, o, none⟩ (.slice (some ⟨g, 0, none⟩) mm cap)).cell? ⟨b, o + 1, none⟩ = some (.int .i64 (off : Nat)) := by rw [hs4.cell (by have := h3.room; omega), if_neg (by omega), h3.f1]
   have x0 := hs4.frozen o
   have x1 := hs4.frozen (o + 1)
   have hFI : (mm : Int) + (n : Int) = (F : Int) := by omega
   have hFc : F ≤ cap := by rw [HX.out] at hle4; omega
   have hcm3 : cap ≤ 9223372036854775807 := hm3
   have HML : Hid (M.length - off = mm) := HMM.out.symm
   rw [HML.out]
   clear hs4 R K3 h3 hb hblk hs3 ht3 h2 hK2 e0' z0' e0 e1 hF hle3 hle4 hcells hh HXl HXc
   generalize w3.setCell ⟨b, o, none⟩ (.slice (some ⟨g, 0, none⟩) mm cap) = w4 at y0 y1 x0 x1 P ⊢
   go_wp2
   go_ret
   exact P
/- bytes.Buffer's grow, where there is a row: the bytes go to its head. -/
/-- A copy within a region that draws its order: what it leaves, to the cell. -/
theorem step_copy_exact {P : Program} {ops : Array Oper} {o : Oper} {a : Act} {w : World} {K : Act → World → Prop} {Q : Exit → Act → World → Prop} {E : Prop} (hgd : o.guard = none) (d s : Operand) (dT sT : TypeId)
 (ho : o.op = .call { callee := .builtin .copy, args := #[d, s], argTypes := #[dT, sT] }) (elem : TypeId) (hu : P.underlying dT = some (.slice elem)) (hsz : (P.info? elem).map (·.size) = some 1)
 (g off dLen dCap : Nat) (ad : Addr) (sLen sCap : Nat) (hd : a.eval d = .slice (some ⟨g, off, none⟩) dLen dCap) (hs : a.eval s = .slice (some ad) sLen sCap)
 (cur : Array Value) (t : TypeId) (hg : w.heap[g]? = some (.cells cur t (0, 0))) (cs : List Value) (hn : cs.length = Nat.min sLen dLen)
 (hsrc : ∀ j v, cs[j]? = some v → w.cell? (ad.add j) = some v) (hfit : off + cs.length ≤ cur.size) (h1 : ∀ v ∈ cs, v.oneCell' = true)
 (h : K (a.put o.dst (goInt cs.length)) (w.setRow g (cur.toList.take off ++ (cs ++ cur.toList.drop (off + cs.length))).toArray)) :
 if Region.wanted o (yielded ops a.tmps) = true then Oper.wp P o a w K Q else E := by
 have hw : Region.wanted o (yielded ops a.tmps) = true := by simp [Region.wanted, hgd]
 rw [if_pos hw]
 have hrun := run_copy_row (P := P) w dT sT o.type elem g off dLen dCap ad sLen sCap cur t cs hu hsz hg hn hsrc hfit h1
 unfold Oper.wp
 simp [execOp, ho, resolve, invoke, builtin, hd, hs, hrun, Result.andThen]
 exact h
set_option maxRecDepth 4000 in
set_option maxHeartbeats 2000000 in
theorem grow_slide (B b o : Nat) (T : TypeId) (nn : Nat) (f : Nat → Value) (off : Nat) (lr : Int) (M : List UInt8) (n g0 cap0 : Nat) (w : World) (h : Bf B w b o T nn f (.slice (some ⟨g0, 0, none⟩) M.length cap0) off lr M) (_hB : B ≤ w.heap.size) (hn : 1 ≤ n) (hl : M.length + n ≤ 17592186044416) (hk : off < M.length) (hsl : (n : Int) ≤ (cap0 : Int) / 2 - ((M.length - off : Nat) : Int)) :
 Calls Tryz.prog 56 #[.pointer (some ⟨b, o, none⟩), .int .i64 (n : Int)] w (GrowP B w b o T nn f (.slice (some ⟨g0, 0, none⟩) M.length cap0) M off n) := by
 have HL : Hid (_) := blen_any B b o T nn f _ off lr M w h (by omega)
 have hle := h.le
 obtain ⟨mm, hmm⟩ : ∃ mm, mm = M.length - off := ⟨_, rfl⟩
 rw [← hmm] at HL hsl
 have HMM : Hid (mm = M.length - off) := hmm
 have hnot : ¬ (mm = 0 ∧ off ≠ 0) := by omega
 clear hmm
 go_enter Tryz.func56, Tryz.ntmps56
 go_wp2_with fail
 refine Calls.mono HL.out ?_
 rintro e w1 ⟨rfl, q1, hw1⟩
 have h1 : Bf B w1 b o T nn f (.slice (some ⟨g0, 0, none⟩) M.length cap0) off lr M := by rw [hw1]; exact h.drewN q1
 have hK1 : Kp w w1 b (.slice (some ⟨g0, 0, none⟩) M.length cap0) := by rw [hw1]; exact (Kp.refl _ _ _).drewN q1
 have d1 := h1.c1
 have HT : Hid (_) := tryGrow_any B b o T nn f _ off lr M n w1 h1 hn (by omega)
 clear HL hw1 h
 have HR : Hid (∀ w2, Kp w1 w2 b (.slice (some ⟨g0, 0, none⟩) M.length cap0) → (∃ g cap cur, (Value.slice (some ⟨g0, 0, none⟩) M.length cap0).ownBlock = some g ∧ Room B w2 b o T nn f n M off lr g cap cur) → GrowP B w b o T nn f (.slice (some ⟨g0, 0, none⟩) M.length cap0) M off n (.returned (.int .i64 (M.length : Nat))) w2) := by
  rintro w2 k2 ⟨g, cap, cur, hg, hr⟩
  exact ⟨M, off, lr, g, cap, cur, rfl, rfl, Nat.le_refl _, hK1.trans k2, Or.inl hg, hr⟩
 have hm0 : mm ≠ 0 := by have := HMM.out; omega
 have hmI : ((mm : Int) == 0) = false := by rw [beq_eq_false_iff_ne]; omega
 go_wp2_with fail
 refine Calls.mono HT.out ?_
 rintro e w2 (⟨rfl, k2, hr⟩ | ⟨rfl, ⟨q2, hw2⟩, hcc⟩)
 ·
  have P := HR.out w2 k2 hr
  clear HR HT hr h1
  go_wp2
  go_ret
  exact P
 ·
  have h2 : Bf B w2 b o T nn f (.slice (some ⟨g0, 0, none⟩) M.length cap0) off lr M := by rw [hw2]; exact h1.drewN q2
  have hK2 : Kp w w2 b (.slice (some ⟨g0, 0, none⟩) M.length cap0) := by rw [hw2]; exact hK1.drewN q2
  have hcap : cap0 < M.length + n := by
   rcases hcc with ⟨e, _⟩ | ⟨g, cap, e, hlt⟩
   · simp at e
   ·
    simp only [Value.slice.injEq] at e
    omega
  have e0 := h2.c0
  have e1 := h2.c1
  have hnl : ∀ w : World, _ := fun w => eql_some w ⟨g0, 0, none⟩ M.length cap0
  clear hcc hw2 h1 hK1 HT HR
  obtain ⟨hlw, hq⟩ := h2.own
  rcases hq with ⟨hq, _⟩ | ⟨g2, cap2, cur, hv, hg, hh, hc, hcm, hcs, htk⟩
  · simp at hq
  simp only [Value.slice.injEq, Option.some.injEq, Addr.mk.injEq, and_true, true_and] at hv
  obtain ⟨ev1, ev2⟩ := hv
  subst ev1 ev2
  rw [Nat.mul_one] at hcs htk
  have hgb : g0 ≠ b := fun e => h2.ne (by rw [e]; rfl)
  have hmm := HMM.out
  have hmb : mm ≤ 35184372088832 := by omega
  have hX : (M.drop off).length = mm := by rw [List.length_drop]; omega
  have hco : ¬ cap0 = off := by omega
  have hbX : (byteVals (M.drop off)).length = mm := by rw [byteVals, List.length_map, hX]
  have hmin : (byteVals (M.drop off)).length = Nat.min (M.length - off) M.length := by
   have e : Nat.min (M.length - off) M.length = M.length - off := Nat.min_eq_left (by omega)
   rw [hbX, e]; omega
  have hsz : (Tryz.prog.info? 5).map (·.size) = some 1 := by
   obtain ⟨i0, hi0, hz0, hs0, hby⟩ := info_parts Tryz.info5
   rw [hi0]; simp [hs0]
  have hsrc : ∀ w4 : World, w4.heap[g0]? = w2.heap[g0]? → ∀ j v, (byteVals (M.drop off))[j]? = some v → w4.cell? ((⟨g0, off, none⟩ : Addr).add j) = some v := fun w4 he j v hv => by
   have hj : j < mm := by have := (List.getElem?_eq_some_iff.1 hv).1; rw [hbX] at this; exact this
   have hj2 : off + j < M.length := by omega
   have cc := h2.own.cells (g := g0) rfl (off + j) _ (byteVals_get M (off + j) hj2)
   rw [addr_add0] at cc
   rw [Addr.add_mid]
   have e2 : v = .int .u8 ((M.getD (off + j) 0).toNat : Int) := by
    have hj3 : j < (M.drop off).length := by omega
    rw [byteVals, List.getElem?_map, List.getElem?_eq_getElem hj3, List.getElem_drop] at hv
    rw [List.getD_eq_getElem?_getD, List.getElem?_eq_getElem hj2]
    exact (Option.some.inj hv).symm
   rw [e2]
   simp only [World.cell?] at cc ⊢
   rw [he]; exact cc
  have hone : ∀ v ∈ byteVals (M.drop off), v.oneCell' = true := fun v hv => by
   rw [byteVals, List.mem_map] at hv
   obtain ⟨b, _, rfl⟩ := hv
   rfl
  have hfit : 0 + (byteVals (M.drop off)).length ≤ cur.size := by rw [hbX, hcs]; omega
  obtain ⟨Y, hY⟩ : ∃ Y, Y = (cur.toList.take 0 ++ (byteVals (M.drop off) ++ cur.toList.drop (0 + (byteVals (M.drop off)).length))).toArray := ⟨_, rfl⟩
  have hYl : Y.toList = byteVals (M.drop off) ++ cur.toList.drop mm := by rw [hY, hbX]; simp
  have hYs : Y.size = cap0 := by
   have hcl : cur.toList.length = cap0 := by rw [Array.length_toList]; exact hcs
   have e : Y.toList.length = cap0 := by rw [hYl, List.length_append, List.length_drop, hbX, hcl]; omega
   rw [← e]; exact Array.length_toList.symm
  obtain ⟨F, hF⟩ : ∃ F, F = mm + n := ⟨_, rfl⟩
  have hgl : g0 < w2.heap.size := (h2.own.lt g0 rfl).2
  have HP : Hid (∀ q, GrowP B w b o T nn f (.slice (some ⟨g0, 0, none⟩) M.length cap0) M off n (.returned (.int .i64 (mm : Nat))) ((((w2.drewN q).setRow g0 Y).setCell ⟨b, o + 1, none⟩ (.int .i64 0)).setCell ⟨b, o, none⟩ (.slice (some ⟨g0, 0, none⟩) F cap0))) := fun q => by
   have hrow : ((w2.drewN q).setRow g0 Y).rowIs b T nn f := (h2.drewN q).row.of_block (setRow_other _ _ _ _ (fun e => hgb e.symm))
   have hblk : ((w2.drewN q).setRow g0 Y).heap[g0]? = some (.cells Y 5 (0, 0)) := setRow_heap _ _ cur _ 5 (0, 0) hh
   have R := room_new hrow h2.room h2.f2 (M.drop off) n g0 cap0 Y hblk hYs (by rw [hX]; omega) hcm (by rw [hYl, hX, ← hbX, List.take_left']; rfl) hg hgb
   rw [hX, ← hF] at R
   have hk3 : Kp w ((w2.drewN q).setRow g0 Y) b (.slice (some ⟨g0, 0, none⟩) M.length cap0) := by
    refine ⟨hK2.os, hK2.tape, hK2.output, by simp [World.setRow]; exact hK2.size, fun c hc1 hx hv => ?_⟩
    rw [setRow_other _ _ _ _ (fun e => hv (by rw [e]; rfl))]
    exact hK2.block c hc1 hx hv
   exact ⟨M.drop off, 0, lr, g0, cap0, Y, by rw [hX], rfl, by rw [hX]; omega, (hk3.set (o + 1) _).set o _, Or.inl rfl, R⟩
  have hrow2 : ∀ q, ((w2.drewN q).setRow g0 Y).rowIs b T nn f := fun q => (h2.drewN q).row.of_block (setRow_other _ _ _ _ (fun e => hgb e.symm))
  have y0 : ∀ q, ((w2.drewN q).setRow g0 Y).cell? ⟨b, o, none⟩ = some (.slice (some ⟨g0, 0, none⟩) M.length cap0) := fun q => by rw [(hrow2 q).cell (by have := h2.room; omega), h2.f0]
  have y1 : ∀ q, ((w2.drewN q).setRow g0 Y).cell? ⟨b, o + 1, none⟩ = some (.int .i64 (off : Nat)) := fun q => by rw [(hrow2 q).cell (by have := h2.room; omega), h2.f1]
  have x0 : ∀ q i, ((w2.drewN q).setRow g0 Y).frozen? ⟨b, i, none⟩ = false := fun q i => (hrow2 q).frozen i
  have hFI : (mm : Int) + (n : Int) = (F : Int) := by omega
  have hFc : F ≤ cap0 := by omega
  have hcm3 : cap0 ≤ 9223372036854775807 := hcm
  have HY : Hid (_) := hY
  have HMIN : Hid (_) := hmin
  have HFIT : Hid (_) := hfit
  have HH : Hid (_) := hh
  clear hY hYl hYs hX hmm hF hmin hfit hbX hcs htk hlw hK2 h2 hrow2 hh
  go_wp2_with fail
  go_region_law (refine step_copy_exact rfl (.tmp 58) (.tmp 67) 80 80 rfl 5 Tryz.underlying80 hsz g0 0 M.length cap0 ⟨g0, off, none⟩ (M.length - off) (cap0 - off) rfl rfl cur 5 HH.out (byteVals (M.drop off)) HMIN.out (hsrc _ rfl) HFIT.out hone ?_; rw [← HY.out])
  all_goals
   have a0 : (w2.drew.setRow g0 Y).cell? ⟨b, o, none⟩ = _ := y0 1
   have a1 : (w2.drew.setRow g0 Y).cell? ⟨b, o + 1, none⟩ = _ := y1 1
   have b0 : (w2.drew.setRow g0 Y).frozen? ⟨b, o, none⟩ = false := x0 1 o
   have b1 : (w2.drew.setRow g0 Y).frozen? ⟨b, o + 1, none⟩ = false := x0 1 (o + 1)
   have P : GrowP B w b o T nn f (.slice (some ⟨g0, 0, none⟩) M.length cap0) M off n (.returned (.int .i64 (mm : Nat))) (((w2.drew.setRow g0 Y).setCell ⟨b, o + 1, none⟩ (.int .i64 0)).setCell ⟨b, o, none⟩ (.slice (some ⟨g0, 0, none⟩) F cap0)) := HP.out 1
   clear y0 y1 x0 HP hsrc hone e0 e1 hnl d1
   generalize w2.drew.setRow g0 Y = w4 at a0 a1 b0 b1 P ⊢
   go_wp2
   go_ret
   exact P
/- bytes.Buffer's grow, where all was read. -/
set_option maxRecDepth 4000 in
set_option maxHeartbeats 2000000 in
theorem grow_reset (B b o : Nat) (T : TypeId) (nn : Nat) (f : Nat → Value) (lr : Int) (M : List UInt8) (n g0 cap0 : Nat) (w : World) (h : Bf B w b o T nn f (.slice (some ⟨g0, 0, none⟩) M.length cap0) M.length lr M) (hn : 1 ≤ n) (hl : M.length + n ≤ 17592186044416) (hk : 0 < M.length) :
 Calls Tryz.prog 56 #[.pointer (some ⟨b, o, none⟩), .int .i64 (n : Int)] w (GrowP B w b o T nn f (.slice (some ⟨g0, 0, none⟩) M.length cap0) M M.length n) := by
 have HL : Hid (_) := blen_any B b o T nn f _ M.length lr M w h (by omega)
 rw [Nat.sub_self] at HL
 have HDR : Hid (M.drop M.length = []) := List.drop_length
 obtain ⟨L, hL⟩ : ∃ L, L = M.length := ⟨_, rfl⟩
 have hLI : ((L : Int) == 0) = false := by rw [beq_eq_false_iff_ne]; omega
 have hLI2 : ((L : Int) != 0) = true := by rw [bne_iff_ne]; omega
 go_enter Tryz.func56, Tryz.ntmps56
 go_wp2_with fail
 refine Calls.mono HL.out ?_
 rintro e w1 ⟨rfl, q1, hw1⟩
 have h1 : Bf B w1 b o T nn f (.slice (some ⟨g0, 0, none⟩) M.length cap0) M.length lr M := by rw [hw1]; exact h.drewN q1
 have hK1 : Kp w w1 b (.slice (some ⟨g0, 0, none⟩) M.length cap0) := by rw [hw1]; exact (Kp.refl _ _ _).drewN q1
 have d1 := h1.c1
 rw [← hL] at d1
 have HRS : Hid (_) := reset_any B b o T nn f M.length lr M g0 cap0 w1 h1
 clear HL hw1 h
 go_wp2_with fail
 refine Calls.mono HRS.out ?_
 rintro e w2 ⟨rfl, h2, k2⟩
 have hK2 := hK1.trans k2
 clear HRS h1 k2 d1 hK1
 go_wp2_with fail
 refine (tryGrow_any B b o T nn _ _ 0 0 [] n w2 h2 hn (by simp; omega)).mono ?_
 rintro e w3 (⟨rfl, k3, g, cap, cur, hg, hr⟩ | ⟨rfl, ⟨q3, hw3⟩, hcc⟩)
 ·
  have P : GrowP B w b o T nn f (.slice (some ⟨g0, 0, none⟩) M.length cap0) M M.length n (.returned (.int .i64 0)) w3 := by
   have k3' : Kp w2 w3 b (.slice (some ⟨g0, 0, none⟩) M.length cap0) := ⟨k3.os, k3.tape, k3.output, k3.size, fun c hc hx hv => k3.block c hc hx hv⟩
   exact ⟨[], 0, 0, g, cap, cur, rfl, by rw [HDR.out]; rfl, Nat.zero_le _, hK2.trans k3', Or.inl hg, room_upd hr⟩
  clear hr h2 hK2 k3
  go_wp2
  go_ret
  exact P
 ·
  have h3 : Bf B w3 b o T nn (updB f o (.slice (some ⟨g0, 0, none⟩) 0 cap0) 0 0) (.slice (some ⟨g0, 0, none⟩) 0 cap0) 0 0 [] := by rw [hw3]; exact h2.drewN q3
  have hK3 : Kp w w3 b (.slice (some ⟨g0, 0, none⟩) M.length cap0) := by rw [hw3]; exact hK2.drewN q3
  have hcap : cap0 < n := by
   rcases hcc with ⟨e, _⟩ | ⟨g, cap, e, hlt⟩
   · simp at e
   ·
    simp only [Value.slice.injEq] at e
    simp at hlt
    omega
  have e0 := h3.c0
  have e1 : w3.cell? ⟨b, o + 1, none⟩ = some (.int .i64 0) := h3.c1
  have hnl : ∀ w : World, _ := fun w => eql_some w ⟨g0, 0, none⟩ 0 cap0
  have hsl : ¬ (n : Int) ≤ (cap0 : Int) / 2 := by omega
  have hmx : ¬ (9223372036854775807 : Int) - (cap0 : Int) - (n : Int) < (cap0 : Int) := by omega
  have hbl := h3.row.lt
  have hgl : g0 < w3.heap.size := (h3.own.lt g0 rfl).2
  have hgB : B ≤ g0 := (h3.own.lt g0 rfl).1
  have hl2 : ([] : List UInt8).length + n ≤ 35184372088832 := by simp; omega
  have hwn : IntKind.i64.wrap (n : Int) = (n : Int) := by rw [IntKind.wrap_i64]; omega
  have hcb : cap0 ≤ 35184372088832 := by omega
  clear hcc hw3 h2 hK2
  go_wp2_with fail
  go_region_with (go_at_call 71; refine (growSlice_as [] n 0 (n : Int) (some ⟨g0, 0, none⟩) cap0 _ rfl rfl (fun e => by cases e) (fun a e j hj => by simp at hj) hn hl2 hcb (Nat.zero_le _)).mono ?_; rintro e w4 ⟨g, cap, cur3, rfl, hg3, hblk, hs3, hle3, hm3, ht3, hb⟩; have h4 : Bf B w4 b o T nn (updB f o (.slice (some ⟨g0, 0, none⟩) 0 cap0) 0 0) (.slice (some ⟨g0, 0, none⟩) 0 cap0) 0 0 [] := h3.frame (hb.block b hbl) (fun g e => by cases e; exact hb.block g0 hgl); have e0' := h4.c0; have z0' := h4.fz o)
  all_goals
   have hgb3 : g ≠ b := by have := hbl; have := hg3; simp at *; omega
   have hgw : w.heap.size ≤ g := Nat.le_trans hK3.size hg3
   have hBg : B ≤ g := by have := hg3; simp at this; omega
   have K4 : Kp w w4 b (.slice (some ⟨g0, 0, none⟩) M.length cap0) := hK3.trans (kp_of_belowD (w := w3) ⟨hb.os, hb.tape, hb.output, hb.size, hb.block⟩ b _)
   have R := room_upd (room_grown h4 [] n g cap (.slice (some ⟨g, 0, none⟩) 0 cap) cur3 hblk hs3 hle3 hm3 ht3 hBg hgb3)
   have P : GrowP B w b o T nn f (.slice (some ⟨g0, 0, none⟩) M.length cap0) M M.length n (.returned (.int .i64 0)) (((w4.setCell ⟨b, o, none⟩ (.slice (some ⟨g, 0, none⟩) 0 cap)).setCell ⟨b, o + 1, none⟩ (.int .i64 0)).setCell ⟨b, o, none⟩ (.slice (some ⟨g, 0, none⟩) n cap)) := by
    refine ⟨[], 0, 0, g, cap, cur3, rfl, by rw [HDR.out]; rfl, Nat.zero_le _, ((K4.set o _).set (o + 1) _).set o _, Or.inr hgw, ?_⟩
    have e : ([] : List UInt8).length + n = n := by simp
    rw [e] at R
    exact R
   have hs4 := (h4.row.set o (.slice (some ⟨g, 0, none⟩) 0 cap))
   have y0 : (w4.setCell ⟨b, o, none⟩ (.slice (some ⟨g, 0, none⟩) 0 cap)).cell? ⟨b, o, none⟩ = some (.slice (some ⟨g, 0, none⟩) 0 cap) := by rw [hs4.cell (by have := h4.room; omega), if_pos rfl]
   have y1 : (w4.setCell ⟨b, o, none⟩ (.slice (some ⟨g, 0, none⟩) 0 cap)).cell? ⟨b, o + 1, none⟩ = some (.int .i64 0) := by rw [hs4.cell (by have := h4.room; omega), if_neg (by omega), updB_1]; rfl
   have x0 := hs4.frozen o
   have x1 := hs4.frozen (o + 1)
   have hnc : n ≤ cap := by simpa using hle3
   have hcm3 : cap ≤ 9223372036854775807 := hm3
   clear hs4 R K4 h4 hb hblk hs3 ht3 h3 hK3 e0' z0' e0 e1 hle3
   generalize w4.setCell ⟨b, o, none⟩ (.slice (some ⟨g, 0, none⟩) 0 cap) = w5 at y0 y1 x0 x1 P ⊢
   go_wp2
   go_ret
   exact P
/- bytes.Buffer's WriteString. -/
theorem bgrow_any (B b o : Nat) (T : TypeId) (nn : Nat) (f : Nat → Value) (v : Value) (off : Nat) (lr : Int) (M : List UInt8) (n : Nat) (w : World) (h : Bf B w b o T nn f v off lr M) (hz : M = [] → v = .slice none 0 0) (hB : B ≤ w.heap.size) (hn : 1 ≤ n) (hl : M.length + n ≤ 17592186044416) :
 Calls Tryz.prog 56 #[.pointer (some ⟨b, o, none⟩), .int .i64 (n : Int)] w (GrowP B w b o T nn f v M off n) := by
 have hle := h.le
 rcases h.shape with ⟨rfl, rfl⟩ | ⟨g0, cap0, rfl, hcap⟩
 ·
  obtain rfl : off = 0 := by simpa using hle
  exact grow_nil B b o T nn f lr n w h hB hn (by simp at hl; omega)
 ·
  have hM : 0 < M.length := by
   rcases Nat.eq_zero_or_pos M.length with e | e
   ·
    have := hz (List.eq_nil_of_length_eq_zero e)
    simp at this
   · exact e
  by_cases ho : off = M.length
  ·
   subst ho
   exact grow_reset B b o T nn f lr M n g0 cap0 w h hn hl hM
  ·
   by_cases hsl : (n : Int) ≤ (cap0 : Int) / 2 - ((M.length - off : Nat) : Int)
   · exact grow_slide B b o T nn f off lr M n g0 cap0 w h hB hn hl (by omega) hsl
   · exact grow_more B b o T nn f off lr M n g0 cap0 w h hB hn hl (by omega) hsl
/-- What WriteString and Write leave. -/
def WrP (B : Nat) (w : World) (b o : Nat) (T : TypeId) (nn : Nat) (f : Nat → Value) (v : Value) (M : List UInt8) (off : Nat) (x : List UInt8) (e : Ending) (w' : World) : Prop :=
 ∃ v' off' lr' M', e = .returned (.tuple #[.int .i64 (x.length : Nat), .nilIface]) ∧ BufP B w b o T nn f v w' v' off' lr' M' ∧ M'.drop off' = M.drop off ++ x ∧ M'.length ≤ M.length + x.length ∧ M' ≠ []
/-- What is written into the room. -/
theorem room_fill {B : Nat} {w w0 : World} {b o : Nat} {T : TypeId} {nn : Nat} {f : Nat → Value} {v : Value} {M M1 x : List UInt8} {off off1 : Nat} {lr1 : Int} {g cap n : Nat} {cur : Array Value} (h : Room B w b o T nn f n M1 off1 lr1 g cap cur) (hx : x.length = n) (hn : 1 ≤ n) (hk : Kp w0 w b v) (hg : v.ownBlock = some g ∨ w0.heap.size ≤ g) (hd : M1.drop off1 = M.drop off) (hl : M1.length ≤ M.length) :
 WrP B w0 b o T nn f v M off x (.returned (.tuple #[.int .i64 (n : Nat), .nilIface])) (w.setRow g (cur.toList.take M1.length ++ byteVals x ++ cur.toList.drop (M1.length + n)).toArray) := by
 have hsz := h.size
 have hle := h.le
 have hoff := h.off
 obtain ⟨Y, hY⟩ : ∃ Y, Y = (cur.toList.take M1.length ++ byteVals x ++ cur.toList.drop (M1.length + n)).toArray := ⟨_, rfl⟩
 rw [← hY]
 have hbx : (byteVals x).length = n := by rw [byteVals, List.length_map, hx]
 have hYl : Y.toList = byteVals (M1 ++ x) ++ cur.toList.drop (M1.length + n) := by
  rw [hY, h.take]
  simp [byteVals]
 have hb1 : (byteVals (M1 ++ x)).length = M1.length + n := by rw [byteVals, List.length_map, List.length_append, hx]
 have hcl : cur.toList.length = cap := by rw [Array.length_toList]; exact hsz
 have hYs : Y.size = cap := by
  have e : Y.toList.length = cap := by rw [hYl, List.length_append, List.length_drop, hb1, hcl]; omega
  rw [← e]; exact Array.length_toList.symm
 have hblk : (w.setRow g Y).heap[g]? = some (.cells Y 5 (0, 0)) := setRow_heap _ _ cur _ 5 (0, 0) h.blk
 have hrow : (w.setRow g Y).rowIs b T nn (updB f o (.slice (some ⟨g, 0, none⟩) (M1.length + n) cap) off1 lr1) := h.row.of_block (setRow_other _ _ _ _ (fun e => h.ne e.symm))
 refine ⟨.slice (some ⟨g, 0, none⟩) (M1.length + n) cap, off1, lr1, M1 ++ x, by rw [hx], ⟨⟨hrow, h.room, updB_0 _ _ _ _ _, updB_1 _ _ _ _ _, updB_2 _ _ _ _ _, ?_, by rw [List.length_append]; omega, fun e => h.ne (Option.some.inj e)⟩, ?_, ?_⟩, ?_, by rw [List.length_append]; omega, fun e => ?_⟩
 ·
  rw [List.length_append, hx]
  exact ⟨by rw [hb1]; omega, Or.inr ⟨g, cap, Y, rfl, h.base, hblk, hle, h.max, by omega, by rw [Nat.mul_one, hYl, ← hb1, List.take_left']; rfl⟩⟩
 ·
  refine ⟨hk.os, hk.tape, hk.output, by simp [World.setRow]; exact hk.size, fun c hc hxb hv => ?_⟩
  rw [setRow_other _ _ _ _ (fun e => ?_)]
  · exact hk.block c hc hxb hv
  ·
   subst e
   rcases hg with hg | hg
   · exact hv hg
   · omega
 ·
  intro g2 e2
  have : g = g2 := Option.some.inj e2
  subst this
  exact hg
 · rw [List.drop_append_of_le_length hoff, hd]
 ·
  have h0 : (M1 ++ x).length = 0 := by rw [e]; rfl
  rw [List.length_append] at h0
  omega
set_option maxRecDepth 4000 in
set_option maxHeartbeats 2000000 in
theorem writeString_any (B b o : Nat) (T : TypeId) (nn : Nat) (f : Nat → Value) (v : Value) (off : Nat) (lr : Int) (M : List UInt8) (S : ByteArray) (w : World) (h : Bf B w b o T nn f v off lr M) (hz : M = [] → v = .slice none 0 0) (hB : B ≤ w.heap.size) (hn : 1 ≤ S.size) (hl : M.length + S.size ≤ 17592186044416) :
 Calls Tryz.prog 31 #[.pointer (some ⟨b, o, none⟩), .string S] w (WrP B w b o T nn f v M off S.data.toList) := by
 have f2 := h.fz (o + 2)
 have c2 := h.c2
 have h1 := h.setLr 0
 have k1 : Kp w (w.setCell ⟨b, o + 2, none⟩ (.int .i8 0)) b v := (Kp.refl _ _ _).set (o + 2) _
 have hz1 : (w.setCell ⟨b, o + 2, none⟩ (.int .i8 0)).heap.size = w.heap.size := by simp [World.setCell]
 have hsz : (Tryz.prog.info? 5).map (·.size) = some 1 := by
  obtain ⟨i0, hi0, hz0, hs0, hby⟩ := info_parts Tryz.info5
  rw [hi0]; simp [hs0]
 have hSl : S.data.toList.length = S.size := Array.length_toList
 have HF : Hid (∀ w2 M1 off1 lr1 g cap cur, Kp w w2 b v → (v.ownBlock = some g ∨ w.heap.size ≤ g) → M1.drop off1 = M.drop off → M1.length ≤ M.length → Room B w2 b o T nn f S.size M1 off1 lr1 g cap cur → WrP B w b o T nn f v M off S.data.toList (.returned (.tuple #[.int .i64 (S.size : Nat), .nilIface])) (w2.setRow g (cur.toList.take M1.length ++ byteVals S.data.toList ++ cur.toList.drop (M1.length + S.size)).toArray)) :=
  fun w2 M1 off1 lr1 g cap cur hk hg hd hl hr => room_fill hr hSl hn hk hg hd hl
 go_enter Tryz.func31, Tryz.ntmps31
 go_wp2_with fail
 generalize w.setCell ⟨b, o + 2, none⟩ (.int .i8 0) = W1 at h1 k1 hz1 ⊢
 refine (tryGrow_any B b o T nn _ v off 0 M S.size _ h1 hn (by omega)).mono ?_
 rintro e w2 (⟨rfl, k2, g, cap, cur, hg, hr⟩ | ⟨rfl, ⟨q2, hw2⟩, hcc⟩)
 ·
  have hr' := room_upd hr
  have P := HF.out w2 M off 0 g cap cur (k1.trans k2) (Or.inl hg) rfl (Nat.le_refl _) hr'
  have c0 : w2.cell? ⟨b, o, none⟩ = some (.slice (some ⟨g, 0, none⟩) (M.length + S.size) cap) := by rw [hr'.row.cell (by have := hr'.room; omega), updB_0]
  have hle := hr'.le
  have hmx : cap ≤ 9223372036854775807 := hr'.max
  have hcp := Lib.run_copy_row_string (P := Tryz.prog) w2 80 9 3 5 g M.length S.size (cap - M.length) S cur 5 Tryz.underlying80 hsz hr'.blk (Nat.le_refl _) (by rw [hr'.size]; exact hle)
  have hcpd := Lib.run_copy_row_string (P := Tryz.prog) w2.drew 80 9 3 5 g M.length S.size (cap - M.length) S cur 5 Tryz.underlying80 hsz hr'.blk (Nat.le_refl _) (by rw [hr'.size]; exact hle)
  have hnc : ¬ cap = M.length := by omega
  clear hr hr' HF h1 k1 k2 hg
  rw [List.append_assoc] at P
  go_wp2
  go_ret2
  exact P
 ·
  have h2 : Bf B w2 b o T nn (updB f o v off 0) v off 0 M := by rw [hw2]; exact h1.drewN q2
  have k2 : Kp w w2 b v := by rw [hw2]; exact k1.drewN q2
  have hB2 : B ≤ w2.heap.size := Nat.le_trans hB k2.size
  clear hcc hw2 h1 k1
  go_wp2_with fail
  refine (bgrow_any B b o T nn _ v off 0 M S.size w2 h2 hz hB2 hn hl).mono ?_
  rintro e w3 ⟨M1, off1, lr1, g, cap, cur, rfl, hd, hl1, k3, hg, hr⟩
  have hr' := room_upd hr
  have hg' : v.ownBlock = some g ∨ w.heap.size ≤ g := by
   rcases hg with hg | hg
   · exact Or.inl hg
   · exact Or.inr (Nat.le_trans k2.size hg)
  have P := HF.out w3 M1 off1 lr1 g cap cur (k2.trans k3) hg' hd hl1 hr'
  obtain ⟨m1, hm1⟩ : ∃ m1, m1 = M1.length := ⟨_, rfl⟩
  have c0 : w3.cell? ⟨b, o, none⟩ = some (.slice (some ⟨g, 0, none⟩) (M1.length + S.size) cap) := by rw [hr'.row.cell (by have := hr'.room; omega), updB_0]
  have hle := hr'.le
  have hmx : cap ≤ 9223372036854775807 := hr'.max
  have hcp := Lib.run_copy_row_string (P := Tryz.prog) w3 80 9 3 5 g M1.length S.size (cap - M1.length) S cur 5 Tryz.underlying80 hsz hr'.blk (Nat.le_refl _) (by rw [hr'.size]; exact hle)
  have hnc : ¬ cap = M1.length := by omega
  rw [← hm1] at P c0 hle hcp hnc hl1 ⊢
  clear hr hr' HF h2 k2 k3 hg hg' hd hm1
  rw [List.append_assoc] at P
  go_wp2
  go_ret2
  exact P
/- bytes.Buffer's Write. -/
set_option maxRecDepth 4000 in
set_option maxHeartbeats 2000000 in
theorem bwrite_any (B b o : Nat) (T : TypeId) (nn : Nat) (f : Nat → Value) (v : Value) (off : Nat) (lr : Int) (M x : List UInt8) (ap : Addr) (cx : Nat) (w : World) (h : Bf B w b o T nn f v off lr M) (hz : M = [] → v = .slice none 0 0) (hB : B ≤ w.heap.size) (hn : 1 ≤ x.length) (hl : M.length + x.length ≤ 17592186044416)
 (hx : ∀ j (hj : j < x.length), w.cell? (ap.add j) = some (.int .u8 (x[j].toNat : Int))) (hpb : ap.block ≠ b) (hpv : v.ownBlock ≠ some ap.block) :
 Calls Tryz.prog 132 #[.pointer (some ⟨b, o, none⟩), .slice (some ap) x.length cx] w (WrP B w b o T nn f v M off x) := by
 have f2 := h.fz (o + 2)
 have c2 := h.c2
 have h1 := h.setLr 0
 have k1 : Kp w (w.setCell ⟨b, o + 2, none⟩ (.int .i8 0)) b v := (Kp.refl _ _ _).set (o + 2) _
 have hsz : (Tryz.prog.info? 5).map (·.size) = some 1 := by
  obtain ⟨i0, hi0, hz0, hs0, hby⟩ := info_parts Tryz.info5
  rw [hi0]; simp [hs0]
 have hbx : (byteVals x).length = x.length := by rw [byteVals, List.length_map]
 have hone : ∀ u ∈ byteVals x, u.oneCell' = true := fun u hu => by
  rw [byteVals, List.mem_map] at hu
  obtain ⟨c, _, rfl⟩ := hu
  rfl
 have HSR : Hid (∀ w2, Kp w w2 b v → ∀ j u, (byteVals x)[j]? = some u → w2.cell? (ap.add j) = some u) := fun w2 k j u hu => by
  have hj : j < x.length := by have := (List.getElem?_eq_some_iff.1 hu).1; rw [hbx] at this; exact this
  have e : u = .int .u8 (x[j].toNat : Int) := by
   rw [byteVals, List.getElem?_map, List.getElem?_eq_getElem hj] at hu
   exact (Option.some.inj hu).symm
  rw [e]
  have c := hx j hj
  have hbk : (ap.add j).block = ap.block := by unfold Addr.add; split <;> rfl
  have hlt := World.block_lt_of_cell? w _ c
  simp only [World.cell?] at c ⊢
  rw [hbk] at hlt c ⊢
  rw [k.block ap.block hlt hpb hpv]; exact c
 obtain ⟨n, hnx⟩ : ∃ n, n = x.length := ⟨_, rfl⟩
 have HF : Hid (∀ w2 M1 off1 lr1 g cap cur, Kp w w2 b v → (v.ownBlock = some g ∨ w.heap.size ≤ g) → M1.drop off1 = M.drop off → M1.length ≤ M.length → Room B w2 b o T nn f n M1 off1 lr1 g cap cur → WrP B w b o T nn f v M off x (.returned (.tuple #[.int .i64 (n : Nat), .nilIface])) (w2.setRow g (cur.toList.take M1.length ++ (byteVals x ++ cur.toList.drop (M1.length + n))).toArray)) :=
  fun w2 M1 off1 lr1 g cap cur hk hg hd hl hr => by
   have := room_fill hr hnx.symm (by omega) hk hg hd hl
   rw [List.append_assoc] at this
   exact this
 rw [← hnx] at hbx hn hl ⊢
 clear hx hnx
 go_enter Tryz.func132, Tryz.ntmps132
 go_wp2_with fail
 generalize w.setCell ⟨b, o + 2, none⟩ (.int .i8 0) = W1 at h1 k1 ⊢
 refine (tryGrow_any B b o T nn _ v off 0 M n _ h1 hn (by omega)).mono ?_
 rintro e w2 (⟨rfl, k2, g, cap, cur, hg, hr⟩ | ⟨rfl, ⟨q2, hw2⟩, hcc⟩)
 ·
  have hr' := room_upd hr
  have P := HF.out w2 M off 0 g cap cur (k1.trans k2) (Or.inl hg) rfl (Nat.le_refl _) hr'
  have hsrc := HSR.out w2 (k1.trans k2)
  have c0 : w2.cell? ⟨b, o, none⟩ = some (.slice (some ⟨g, 0, none⟩) (M.length + n) cap) := by rw [hr'.row.cell (by have := hr'.room; omega), updB_0]
  have hle := hr'.le
  have hmx : cap ≤ 9223372036854775807 := hr'.max
  have hblk := hr'.blk
  have hmin : (byteVals x).length = Nat.min n n := by rw [hbx]; exact (Nat.min_self n).symm
  have hfit : M.length + (byteVals x).length ≤ cur.size := by rw [hbx, hr'.size]; exact hle
  have hnc : ¬ cap = M.length := by omega
  clear hr hr' HF h1 k1 k2 hg HSR
  go_wp2_with (first | (refine wpList_copy_own rfl _ _ _ _ rfl 5 Tryz.underlying80 hsz g M.length n (cap - M.length) ap n cx rfl rfl cur 5 hblk (byteVals x) hmin hsrc hfit hone ?_) | fail)
  go_ret2
  exact P
 ·
  have h2 : Bf B w2 b o T nn (updB f o v off 0) v off 0 M := by rw [hw2]; exact h1.drewN q2
  have k2 : Kp w w2 b v := by rw [hw2]; exact k1.drewN q2
  have hB2 : B ≤ w2.heap.size := Nat.le_trans hB k2.size
  clear hcc hw2 h1 k1
  go_wp2_with fail
  refine (bgrow_any B b o T nn _ v off 0 M n w2 h2 hz hB2 hn hl).mono ?_
  rintro e w3 ⟨M1, off1, lr1, g, cap, cur, rfl, hd, hl1, k3, hg, hr⟩
  have hr' := room_upd hr
  have hg' : v.ownBlock = some g ∨ w.heap.size ≤ g := by
   rcases hg with hg | hg
   · exact Or.inl hg
   · exact Or.inr (Nat.le_trans k2.size hg)
  have P := HF.out w3 M1 off1 lr1 g cap cur (k2.trans k3) hg' hd hl1 hr'
  have hsrc := HSR.out w3 (k2.trans k3)
  obtain ⟨m1, hm1⟩ : ∃ m1, m1 = M1.length := ⟨_, rfl⟩
  have c0 : w3.cell? ⟨b, o, none⟩ = some (.slice (some ⟨g, 0, none⟩) (M1.length + n) cap) := by rw [hr'.row.cell (by have := hr'.room; omega), updB_0]
  have hle := hr'.le
  have hmx : cap ≤ 9223372036854775807 := hr'.max
  have hblk := hr'.blk
  have hmin : (byteVals x).length = Nat.min n n := by rw [hbx]; exact (Nat.min_self n).symm
  have hfit : M1.length + (byteVals x).length ≤ cur.size := by rw [hbx, hr'.size]; exact hle
  have hnc : ¬ cap = M1.length := by omega
  rw [← hm1] at P c0 hle hnc hl1 hfit ⊢
  clear hr hr' HF h2 k2 k3 hg hg' hd hm1 HSR
  go_wp2_with (first | (refine wpList_copy_own rfl _ _ _ _ rfl 5 Tryz.underlying80 hsz g m1 n (cap - m1) ap n cx rfl rfl cur 5 hblk (byteVals x) hmin hsrc hfit hone ?_) | fail)
  go_ret2
  exact P
end Go.Proofs.YtecddphahiadlaaGreatDoor
