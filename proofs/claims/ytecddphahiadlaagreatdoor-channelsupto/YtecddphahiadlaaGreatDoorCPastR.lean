import Derived.Test.YtecddphahiadlaaGreatDoorCPut
import Derived.Test.YtecddphahiadlaaGreatDoorCFixed
import Derived.WalkSmall
import Derived.Test.YtecddphahiadlaaGreatDoorCCount
import Derived.Maps.OwnSet
import Derived.Deep.WholeRow
import Derived.Deep.OwnRows
import Derived.WalkKit
/- The program's past: alike. -/
namespace Go.Proofs.YtecddphahiadlaaGreatDoor
open Go.RowKit
/-- Byte i of a text. -/
def tb (T : ByteArray) (i : Nat) : UInt8 := T.data.toList.getD i 0
/-- k bytes from two places on are the same. -/
def Alk (T : ByteArray) (p q k : Nat) : Prop := ∀ i, i < k → tb T (p + i) = tb T (q + i)
theorem Alk.zero (T : ByteArray) (p q : Nat) : Alk T p q 0 := fun i h => by omega
theorem Alk.more {T : ByteArray} {p q k : Nat} (h : Alk T p q k) (e : tb T (p + k) = tb T (q + k)) : Alk T p q (k + 1) := fun i hi => by
 rcases (by omega : i < k ∨ i = k) with h1 | h1
 · exact h i h1
 · subst h1; exact e
def AlikePost (w : World) (T : ByteArray) (p q m : Nat) (e : Ending) (w' : World) : Prop :=
 ∃ k : Nat, e = .returned (.int .i64 (k : Nat)) ∧ k ≤ m ∧ Alk T p q k ∧ (k < m → tb T (p + k) ≠ tb T (q + k)) ∧ Below w.heap.size w w'
set_option maxHeartbeats 400000 in
theorem alike_any (p q m ge n cE : Nat) (T : ByteArray) (w : World) (hT : T.size ≤ 5000) (hp : p + m ≤ T.size) (hq : q + m ≤ T.size) :
 Calls Tryz.prog 119 #[.agg #[.string T, .slice (some ⟨ge, 0, none⟩) n cE], .int .i64 (p : Int), .int .i64 (q : Int), .int .i64 (m : Int)] w (AlikePost w T p q m) := by
 have C0 : (w.alloc (.cells #[.string T, .slice (some ⟨ge, 0, none⟩) n cE] 163)).cell? ⟨w.heap.size, 0, none⟩ = some (.string T) := by
  have e := World.rowIs_alloc w #[.string T, .slice (some ⟨ge, 0, none⟩) n cE] 163 (fun i => if i = 0 then .string T else .slice (some ⟨ge, 0, none⟩) n cE) (fun i hi => by match i, hi with | 0, _ => rfl | 1, _ => rfl)
  exact e.cell (i := 0) (by simp)
 have B0 : Below w.heap.size w (w.alloc (.cells #[.string T, .slice (some ⟨ge, 0, none⟩) n cE] 163)) := (Below.refl _ _).alloc (Nat.le_refl _) _
 go_enter Tryz.func119, Tryz.ntmps119
 go_wp2
 go_loopw [9] (fun x wr => ∃ k : Nat, k ≤ m ∧ x = .int .i64 (k : Nat) ∧ Alk T p q k ∧ wr.cell? ⟨w.heap.size, 0, none⟩ = some (.string T) ∧ Below w.heap.size w wr) (fun x _ => m - (intOf x).toNat)
 case atStart => exact ⟨0, by omega, rfl, Alk.zero _ _ _, C0, B0⟩
 case round =>
  obtain ⟨k, hk, rfl, hs, hc, hb⟩ := hrel
  clear C0 B0
  by_cases hlt : k < m
  ·
   have i1 : ∀ wq, _ := fun wq => index_run T (p + k) ((p : Int) + (k : Int)) (by omega) (by omega) wq
   have i2 : ∀ wq, _ := fun wq => index_run T (q + k) ((q : Int) + (k : Int)) (by omega) (by omega) wq
   have b1 := (tb T (p + k)).toNat_lt
   have b2 := (tb T (q + k)).toNat_lt
   have hd : decide ((k : Int) < (m : Int)) = true := by rw [decide_eq_true_iff]; omega
   by_cases he : tb T (p + k) = tb T (q + k)
   ·
    have S2 := hs.more he
    have HE : Hid ((T.data.toList.getD (p + k) 0).toNat = (T.data.toList.getD (q + k) 0).toNat) := congrArg UInt8.toNat he
    rw [HE.out] at i1
    generalize (T.data.toList.getD (q + k) 0).toNat = c at i1 i2
    clear he b1 b2
    go_wp2
    go_big_quiet (fail)
    go_wp2
    go_roundw
    case rel => exact ⟨k + 1, by omega, by go_num, S2, hc, below_drewN hb nq⟩
    case measure => simp [intOf]; omega
   ·
    have HE : Hid (tb T (p + k) ≠ tb T (q + k)) := he
    have hne : (T.data.toList.getD (p + k) 0).toNat ≠ (T.data.toList.getD (q + k) 0).toNat := fun e => he (UInt8.toNat_inj.1 e)
    generalize (T.data.toList.getD (p + k) 0).toNat = c1 at i1 hne
    generalize (T.data.toList.getD (q + k) 0).toNat = c2 at i2 hne
    have hbe : (((c1 : Int)) == ((c2 : Int))) = false := by rw [beq_eq_false_iff_ne]; omega
    clear he b1 b2 hne
    go_wp2
    go_big_quiet (fail)
    go_wp2
    go_ret
    exact ⟨k, rfl, hk, hs, fun _ => HE.out, below_drewN hb nq⟩
  ·
   obtain rfl : k = m := by omega
   have hd : decide ((k : Int) < (k : Int)) = false := by rw [decide_eq_false_iff_not]; omega
   go_wp2
   go_big_quiet (fail)
   go_wp2
   go_ret
   exact ⟨k, rfl, hk, hs, fun h => by omega, below_drewN hb nq⟩
theorem alike_int (p q m ge n cE : Nat) (M : Int) (T : ByteArray) (w : World) (hM : M = (m : Int)) (hT : T.size ≤ 5000) (hp : p + m ≤ T.size) (hq : q + m ≤ T.size) :
 Calls Tryz.prog 119 #[.agg #[.string T, .slice (some ⟨ge, 0, none⟩) n cE], .int .i64 (p : Int), .int .i64 (q : Int), .int .i64 M] w (AlikePost w T p q m) := by
 subst hM
 exact alike_any p q m ge n cE T w hT hp hq
/- The program's past: longest. -/
/-- A text all of one kind. -/
def Uni (T : ByteArray) : Prop := ∀ i, i < T.size → tb T i = tb T 0
/-- For each place the last one ahead at which the same 3 bytes begin, or -1. -/
structure Ear (T : ByteArray) (z : Nat → Int) (m : Nat) : Prop where
 ok : ∀ i, i < m → z i = -1 ∨ ∃ p : Nat, z i = (p : Int) ∧ p < i ∧ i + 3 ≤ T.size ∧ Alk T p i 3
 uni : Uni T → ∀ i, 1 ≤ i → i < m → i + 3 ≤ T.size → z i = ((i - 1 : Nat) : Int)
theorem Alk.trans {T : ByteArray} {p q r k : Nat} (h1 : Alk T p q k) (h2 : Alk T q r k) : Alk T p r k := fun i hi => (h1 i hi).trans (h2 i hi)
def Good (T : ByteArray) (a l d : Nat) : Prop := 3 ≤ l ∧ l ≤ 258 ∧ a + l ≤ T.size ∧ 1 ≤ d ∧ d ≤ a ∧ Alk T (a - d) a l ∧ (Uni T → l = min 258 (T.size - a) ∧ d = 1)
/-- What longest answers. -/
def LongOk (T : ByteArray) (a l d : Nat) : Prop := (l = 0 ∧ d = 0 ∧ (Uni T → a = 0 ∨ T.size < a + 3)) ∨ Good T a l d
/-- Within its loop. -/
def LgIn (T : ByteArray) (z : Nat → Int) (a l d : Nat) (p : Int) : Prop :=
 (l = 0 ∧ d = 0 ∧ p = z a) ∨ (Good T a l d ∧ (p = -1 ∨ ∃ q : Nat, p = (q : Int) ∧ q < a ∧ a + 3 ≤ T.size ∧ Alk T q a 3))
theorem LgIn.place {T : ByteArray} {z : Nat → Int} {a l d : Nat} {p : Int} (hz : Ear T z T.size) (ha : a < T.size) (h : LgIn T z a l d p) : p = -1 ∨ ∃ q : Nat, p = (q : Int) ∧ q < a ∧ a + 3 ≤ T.size ∧ Alk T q a 3 := by
 rcases h with ⟨_, _, e⟩ | ⟨_, h⟩
 · rw [e]; exact hz.ok a ha
 · exact h
theorem LgIn.stop {T : ByteArray} {z : Nat → Int} {a l d : Nat} (hz : Ear T z T.size) (ha : a < T.size) (h : LgIn T z a l d (-1)) : LongOk T a l d := by
 rcases h with ⟨h1, h2, h3⟩ | ⟨h, _⟩
 ·
  refine Or.inl ⟨h1, h2, fun hu => ?_⟩
  rcases (by omega : a = 0 ∨ T.size < a + 3 ∨ (1 ≤ a ∧ a + 3 ≤ T.size)) with e | e | e
  · exact Or.inl e
  · exact Or.inr e
  ·
   have := hz.uni hu a e.1 ha e.2
   omega
 · exact Or.inr h
theorem LgIn.full {T : ByteArray} {z : Nat → Int} {a l d : Nat} {p : Int} (ha : a < T.size) (h : LgIn T z a l d p) (hl : min 258 (T.size - a) ≤ l) : LongOk T a l d := by
 rcases h with ⟨h1, _⟩ | ⟨h, _⟩
 · omega
 · exact Or.inr h
theorem LgIn.next {T : ByteArray} {z : Nat → Int} {a l d q k : Nat} (hz : Ear T z T.size) (ha : a < T.size) (h : LgIn T z a l d (q : Int)) (hl : l < min 258 (T.size - a)) (hk : k ≤ min 258 (T.size - a)) (hs : Alk T q a k) (hn : k < min 258 (T.size - a) → tb T (q + k) ≠ tb T (a + k)) :
 (l < k → LgIn T z a k (a - q) (z q)) ∧ (¬ l < k → LgIn T z a l d (z q)) ∧ (z q = -1 ∨ ∃ r : Nat, z q = (r : Int) ∧ r < q) := by
 obtain ⟨q', hq, hqa, ha3, h3⟩ : ∃ q' : Nat, (q : Int) = (q' : Int) ∧ q' < a ∧ a + 3 ≤ T.size ∧ Alk T q' a 3 := by
  rcases h.place hz ha with e | e
  · omega
  · exact e
 obtain rfl : q = q' := by omega
 have hk3 : 3 ≤ k := by
  rcases (by omega : k < 3 ∨ 3 ≤ k) with e | e
  · exact absurd (h3 k e) (hn (by omega))
  · exact e
 have hzq : z q = -1 ∨ ∃ r : Nat, z q = (r : Int) ∧ r < a ∧ a + 3 ≤ T.size ∧ Alk T r a 3 := by
  rcases hz.ok q (by omega) with e | ⟨r, e1, e2, _, e4⟩
  · exact Or.inl e
  · exact Or.inr ⟨r, e1, by omega, ha3, e4.trans h3⟩
 refine ⟨fun hlk => Or.inr ⟨⟨hk3, by omega, by omega, by omega, by omega, by rw [show a - (a - q) = q from by omega]; exact hs, fun hu => ?_⟩, hzq⟩, fun hlk => ?_, ?_⟩
 ·
  have hkm : k = min 258 (T.size - a) := by
   rcases (by omega : k < min 258 (T.size - a) ∨ k = min 258 (T.size - a)) with e | e
   · exact absurd ((hu (q + k) (by omega)).trans (hu (a + k) (by omega)).symm) (hn e)
   · exact e
  refine ⟨hkm, ?_⟩
  rcases h with ⟨_, _, e⟩ | ⟨g, _⟩
  ·
   have := hz.uni hu a (by omega) ha ha3
   omega
  ·
   have := (g.2.2.2.2.2.2 hu).1
   omega
 ·
  rcases h with ⟨e, _, _⟩ | ⟨g, _⟩
  · omega
  · exact Or.inr ⟨g, hzq⟩
 ·
  rcases hz.ok q (by omega) with e | ⟨r, e1, e2, _⟩
  · exact Or.inl e
  · exact Or.inr ⟨r, e1, e2⟩
def LongPost (w : World) (T : ByteArray) (a : Nat) (e : Ending) (w' : World) : Prop :=
 ∃ l d : Nat, e = .returned (.tuple #[.int .i64 (l : Nat), .int .i64 (d : Nat)]) ∧ LongOk T a l d ∧ Below w.heap.size w w'
/-- The past's box. -/
structure PBox (w wr : World) (T : ByteArray) (ge cE : Nat) : Prop where
 below : Below w.heap.size w wr
 row : wr.rowIs w.heap.size 163 2 (fun i => if i = 0 then .string T else .slice (some ⟨ge, 0, none⟩) T.size cE)
theorem Tryz.size163 : (Tryz.prog.info? 163).map (·.size) = some 2 := by kernel_rfl
theorem one_ne0 : (1 = 0) = False := by simp
theorem pbox_row {w : World} {g ge n cE : Nat} {T : ByteArray} (h : w.rowIs g 163 2 (fun i => if i = 0 then .string T else .slice (some ⟨ge, 0, none⟩) n cE)) : w.heap[g]? = some (.cells #[.string T, .slice (some ⟨ge, 0, none⟩) n cE] 163 (0, 0)) := by
 obtain ⟨A, hb, hs, ha⟩ := h
 have e : A = #[.string T, .slice (some ⟨ge, 0, none⟩) n cE] := by
  apply Array.ext_getElem?
  intro i
  by_cases hi : i < 2
  ·
   rw [ha i hi]
   rcases (by omega : i = 0 ∨ i = 1) with e | e <;> subst e <;> rfl
  · rw [Array.getElem?_eq_none (by omega), Array.getElem?_eq_none (by simp; omega)]
 rw [hb, e]
set_option maxRecDepth 4000 in
set_option maxHeartbeats 1000000 in
theorem longest_any (a ge cE : Nat) (z : Nat → Int) (T : ByteArray) (w : World) (hT : T.size ≤ 5000) (ha : a < T.size) (hz : Ear T z T.size) (hi : IntsAt w ge 0 T.size z) :
 Calls Tryz.prog 103 #[.agg #[.string T, .slice (some ⟨ge, 0, none⟩) T.size cE], .int .i64 (a : Int)] w (LongPost w T a) := by
 have e0 := World.rowIs_alloc w #[.string T, .slice (some ⟨ge, 0, none⟩) T.size cE] 163 (fun i => if i = 0 then .string T else .slice (some ⟨ge, 0, none⟩) T.size cE) (fun i hi => by match i, hi with | 0, _ => rfl | 1, _ => rfl)
 have B0 : Below w.heap.size w (w.alloc (.cells #[.string T, .slice (some ⟨ge, 0, none⟩) T.size cE] 163)) := (Below.refl _ _).alloc (Nat.le_refl _) _
 have X0 : PBox w (w.alloc (.cells #[.string T, .slice (some ⟨ge, 0, none⟩) T.size cE] 163)) T ge cE := ⟨B0, e0⟩
 have C0 := e0.cell (i := 0) (by simp)
 have C1 := e0.cell (i := 1) (by simp)
 have CA := (hi.later B0).cell a ha
 simp only [Nat.zero_add] at CA
 have L0 : LgIn T z a 0 0 (z a) := Or.inl ⟨rfl, rfl, rfl⟩
 have haI : (a : Int) < (T.size : Int) := by omega
 by_cases hm : T.size - a < 258
 ·
  have hmI : (T.size : Int) - (a : Int) < 258 := by omega
  have hmJ : ¬ (258 : Int) ≤ (T.size : Int) - (a : Int) := by omega
  go_enter Tryz.func103, Tryz.ntmps103
  go_wp2
  go_loopw [4, 5, 7] (fun x y p wr => ∃ (l d : Nat) (q : Int), x = .int .i64 (l : Nat) ∧ y = .int .i64 (d : Nat) ∧ p = .int .i64 q ∧ LgIn T z a l d q ∧ PBox w wr T ge cE) (fun _ _ p _ => (intOf p + 1).toNat)
  case atStart => exact ⟨0, 0, z a, rfl, rfl, rfl, L0, X0⟩
  case round =>
   obtain ⟨l, d, q, rfl, rfl, rfl, hL, hX⟩ := hrel
   clear L0 X0 C0 C1 CA
   have k0 := hX.row.cell (i := 0) (by omega)
   have k1 := hX.row.cell (i := 1) (by omega)
   simp only [if_true, one_ne0, if_false] at k0 k1
   rcases hL.place hz ha with e | ⟨p, e, hpa, ha3, _⟩
   ·
    subst e
    have LO := hL.stop hz ha
    have hB := hX.below
    clear hL hX k0 k1
    go_wp2
    go_ret2
    exact ⟨l, d, rfl, LO, hB⟩
   ·
    subst e
    have hp0 : (0 : Int) ≤ (p : Int) := by omega
    by_cases hl : l < T.size - a
    ·
     have hlM : l < min 258 (T.size - a) := by omega
     have CP := (hi.later hX.below).cell p (by omega)
     simp only [Nat.zero_add] at CP
     have hB := hX.below
     have hwl := hX.row.lt
     have hrow : wr.heap[w.heap.size]? = some (.cells #[.string T, .slice (some ⟨ge, 0, none⟩) T.size cE] 163 (0, 0)) := pbox_row hX.row
     have hsz : (Tryz.prog.info? 163).map (·.size) = some (#[Value.string T, .slice (some ⟨ge, 0, none⟩) T.size cE]).size := Tryz.size163
     have hpI : (p : Int) < (T.size : Int) := by omega
     have hlI : (l : Int) < (T.size : Int) - (a : Int) := by omega
     go_wp2_with (first | (refine wpList_load_row_g rfl 163 (.tmp 2) rfl w.heap.size rfl 163 #[.string T, .slice (some ⟨ge, 0, none⟩) T.size cE] (0, 0) _ hrow Tryz.underlying163 rfl hsz ?_) | fail)
     refine (alike_int p a (T.size - a) ge T.size cE _ T _ (by omega) hT (by omega) (by omega)).mono ?_
     rintro e w2 ⟨k, rfl, hk, hs, hn, hb2⟩
     obtain ⟨n1, n2, n3⟩ := hL.next hz ha hlM (k := k) (by omega) hs (fun h => hn (by omega))
     have X2 : PBox w w2 T ge cE := ⟨hB.trans (hb2.mono hB.size), hX.row.of_block (hb2.block _ hwl)⟩
     have m0 := X2.row.cell (i := 0) (by omega)
     have m1 := X2.row.cell (i := 1) (by omega)
     simp only [if_true, one_ne0, if_false] at m0 m1
     have CQ := (hi.later X2.below).cell p (by omega)
     simp only [Nat.zero_add] at CQ
     have hz1 : -1 ≤ z p ∧ z p < (p : Int) := by
      rcases n3 with e | ⟨r, e, _⟩ <;> omega
     clear hL hX k0 k1 hs hn hb2 hB CP n3 hrow hsz
     by_cases hkl : l < k
     ·
      have N1 := n1 hkl
      have hdI : (a : Int) - (p : Int) = ((a - p : Nat) : Int) := by omega
      clear n1 n2
      go_wp2
      go_roundw
      case rel => exact ⟨k, a - p, z p, rfl, by rw [← hdI], rfl, N1, X2⟩
      case measure => simp [intOf]; omega
     ·
      have N2 := n2 hkl
      clear n1 n2
      go_wp2
      go_roundw
      case rel => exact ⟨l, d, z p, rfl, rfl, rfl, N2, X2⟩
      case measure => simp [intOf]; omega
    ·
     have LO := hL.full ha (by omega)
     have hB := hX.below
     clear hL hX k0 k1
     have hlI : ¬ (l : Int) < (T.size : Int) - (a : Int) := by omega
     go_wp2
     go_ret2
     exact ⟨l, d, rfl, LO, hB⟩
 ·
  have hmI : ¬ (T.size : Int) - (a : Int) < 258 := by omega
  have hmJ : (258 : Int) ≤ (T.size : Int) - (a : Int) := by omega
  go_enter Tryz.func103, Tryz.ntmps103
  go_wp2
  go_loopw [4, 5, 7] (fun x y p wr => ∃ (l d : Nat) (q : Int), x = .int .i64 (l : Nat) ∧ y = .int .i64 (d : Nat) ∧ p = .int .i64 q ∧ LgIn T z a l d q ∧ PBox w wr T ge cE) (fun _ _ p _ => (intOf p + 1).toNat)
  case atStart => exact ⟨0, 0, z a, rfl, rfl, rfl, L0, X0⟩
  case round =>
   obtain ⟨l, d, q, rfl, rfl, rfl, hL, hX⟩ := hrel
   clear L0 X0 C0 C1 CA
   have k0 := hX.row.cell (i := 0) (by omega)
   have k1 := hX.row.cell (i := 1) (by omega)
   simp only [if_true, one_ne0, if_false] at k0 k1
   rcases hL.place hz ha with e | ⟨p, e, hpa, ha3, _⟩
   ·
    subst e
    have LO := hL.stop hz ha
    have hB := hX.below
    clear hL hX k0 k1
    go_wp2
    go_ret2
    exact ⟨l, d, rfl, LO, hB⟩
   ·
    subst e
    have hp0 : (0 : Int) ≤ (p : Int) := by omega
    by_cases hl : l < 258
    ·
     have hlM : l < min 258 (T.size - a) := by omega
     have CP := (hi.later hX.below).cell p (by omega)
     simp only [Nat.zero_add] at CP
     have hB := hX.below
     have hwl := hX.row.lt
     have hrow : wr.heap[w.heap.size]? = some (.cells #[.string T, .slice (some ⟨ge, 0, none⟩) T.size cE] 163 (0, 0)) := pbox_row hX.row
     have hsz : (Tryz.prog.info? 163).map (·.size) = some (#[Value.string T, .slice (some ⟨ge, 0, none⟩) T.size cE]).size := Tryz.size163
     have hpI : (p : Int) < (T.size : Int) := by omega
     have hlI : (l : Int) < 258 := by omega
     go_wp2_with (first | (refine wpList_load_row_g rfl 163 (.tmp 2) rfl w.heap.size rfl 163 #[.string T, .slice (some ⟨ge, 0, none⟩) T.size cE] (0, 0) _ hrow Tryz.underlying163 rfl hsz ?_) | fail)
     refine (alike_int p a 258 ge T.size cE _ T _ (by omega) hT (by omega) (by omega)).mono ?_
     rintro e w2 ⟨k, rfl, hk, hs, hn, hb2⟩
     obtain ⟨n1, n2, n3⟩ := hL.next hz ha hlM (k := k) (by omega) hs (fun h => hn (by omega))
     have X2 : PBox w w2 T ge cE := ⟨hB.trans (hb2.mono hB.size), hX.row.of_block (hb2.block _ hwl)⟩
     have m0 := X2.row.cell (i := 0) (by omega)
     have m1 := X2.row.cell (i := 1) (by omega)
     simp only [if_true, one_ne0, if_false] at m0 m1
     have CQ := (hi.later X2.below).cell p (by omega)
     simp only [Nat.zero_add] at CQ
     have hz1 : -1 ≤ z p ∧ z p < (p : Int) := by
      rcases n3 with e | ⟨r, e, _⟩ <;> omega
     clear hL hX k0 k1 hs hn hb2 hB CP n3 hrow hsz
     by_cases hkl : l < k
     ·
      have N1 := n1 hkl
      have hdI : (a : Int) - (p : Int) = ((a - p : Nat) : Int) := by omega
      clear n1 n2
      go_wp2
      go_roundw
      case rel => exact ⟨k, a - p, z p, rfl, by rw [← hdI], rfl, N1, X2⟩
      case measure => simp [intOf]; omega
     ·
      have N2 := n2 hkl
      clear n1 n2
      go_wp2
      go_roundw
      case rel => exact ⟨l, d, z p, rfl, rfl, rfl, N2, X2⟩
      case measure => simp [intOf]; omega
    ·
     have LO := hL.full ha (by omega)
     have hB := hX.below
     clear hL hX k0 k1
     have hlI : ¬ (l : Int) < 258 := by omega
     go_wp2
     go_ret2
     exact ⟨l, d, rfl, LO, hB⟩
/- The program's past: remember. -/
def key3 (T : ByteArray) (i : Nat) : List UInt8 := (T.extract i (i + 3)).data.toList
theorem key3_at {T : ByteArray} {i j : Nat} (_h : i + 3 ≤ T.size) (hj : j < 3) : (key3 T i).getD j 0 = tb T (i + j) := by
 unfold key3 tb
 rw [ByteArray.data_extract, Array.toList_extract]
 simp only [List.getD_eq_getElem?_getD, List.extract_eq_take_drop, List.getElem?_take, List.getElem?_drop]
 rw [if_pos (by omega)]
theorem key3_same {T : ByteArray} {i j : Nat} (hi : i + 3 ≤ T.size) (hj : j + 3 ≤ T.size) (h : key3 T i = key3 T j) : Alk T i j 3 := fun k hk => by
 rw [← key3_at hi hk, ← key3_at hj hk, h]
theorem key3_len {T : ByteArray} {i : Nat} (h : i + 3 ≤ T.size) : (key3 T i).length = 3 := by
 unfold key3
 rw [Array.length_toList]
 show (T.extract i (i + 3)).size = 3
 rw [ByteArray.size_extract]
 omega
theorem key3_uni {T : ByteArray} {i j : Nat} (hu : Uni T) (hi : i + 3 ≤ T.size) (hj : j + 3 ≤ T.size) : key3 T i = key3 T j := by
 apply List.ext_getElem?
 intro k
 by_cases hk : k < 3
 ·
  have e1 := key3_at hi hk
  have e2 := key3_at hj hk
  rw [hu _ (by omega)] at e1 e2
  rw [List.getD_eq_getElem?_getD, List.getElem?_eq_getElem (by rw [key3_len hi]; exact hk)] at e1
  rw [List.getD_eq_getElem?_getD, List.getElem?_eq_getElem (by rw [key3_len hj]; exact hk)] at e2
  rw [List.getElem?_eq_getElem (by rw [key3_len hi]; exact hk), List.getElem?_eq_getElem (by rw [key3_len hj]; exact hk)]
  simp only [Option.getD_some] at e1 e2
  rw [e1, e2]
 · rw [List.getElem?_eq_none (by rw [key3_len hi]; omega), List.getElem?_eq_none (by rw [key3_len hj]; omega)]
def i64d (v : Int) : DataW Unit := .lit (.int .i64 v)
/-- The map of the last places. -/
structure Lat (T : ByteArray) (D : DataW Unit) (k : Nat) : Prop where
 ok : ∀ q : List UInt8, Maps.has D (.string q) = true → ∃ v : Nat, D.atKey (.string q) (i64d 0) = i64d v ∧ v < k ∧ v + 3 ≤ T.size ∧ key3 T v = q
 uni : Uni T → 1 ≤ k → k + 2 ≤ T.size → Maps.has D (.string (key3 T (k - 1))) = true ∧ D.atKey (.string (key3 T (k - 1))) (i64d 0) = i64d ((k - 1 : Nat) : Int)
theorem keyS {q : List UInt8} : WideAt.IsKeyLit (.string q) := by simp [WideAt.IsKeyLit]
theorem Lat.start (T : ByteArray) : Lat T (.map []) 0 := ⟨fun q h => by simp [Maps.has] at h, fun _ h => by omega⟩
theorem Lat.pass {T : ByteArray} {D : DataW Unit} {k : Nat} (h : Lat T D k) (hk : T.size < k + 3) : Lat T D (k + 1) :=
 ⟨fun q hq => by obtain ⟨v, h1, h2, h3, h4⟩ := h.ok q hq; exact ⟨v, h1, by omega, h3, h4⟩, fun _ _ h3 => by omega⟩
theorem Lat.put {T : ByteArray} {D : DataW Unit} {k : Nat} (h : Lat T D k) (hD : Maps.IsMap D) (hk : k + 3 ≤ T.size) : Lat T (D.put (.string (key3 T k)) (i64d k)) (k + 1) := by
 refine ⟨fun q hq => ?_, fun _ _ _ => ?_⟩
 ·
  by_cases e : q = key3 T k
  ·
   subst e
   exact ⟨k, Maps.atKey_put_same hD keyS _ _, by omega, hk, rfl⟩
  ·
   have hne : (Lit.string q) ≠ .string (key3 T k) := fun e2 => e (by injection e2)
   rw [Maps.has_put_other hne] at hq
   obtain ⟨v, h1, h2, h3, h4⟩ := h.ok q hq
   exact ⟨v, by rw [Maps.atKey_put_other hne]; exact h1, by omega, h3, h4⟩
 ·
  rw [Nat.add_sub_cancel]
  exact ⟨Maps.has_put_same hD keyS _, Maps.atKey_put_same hD keyS _ _⟩
def setZ (z : Nat → Int) (k : Nat) (v : Int) (i : Nat) : Int := if i = k then v else z i
theorem Ear.more {T : ByteArray} {z : Nat → Int} {k : Nat} {v : Int} (h : Ear T z k) (hv : v = -1 ∨ ∃ p : Nat, v = (p : Int) ∧ p < k ∧ k + 3 ≤ T.size ∧ Alk T p k 3) (hu : Uni T → 1 ≤ k → k + 3 ≤ T.size → v = ((k - 1 : Nat) : Int)) : Ear T (setZ z k v) (k + 1) := by
 refine ⟨fun i hi => ?_, fun hun i h1 hi h3 => ?_⟩
 ·
  unfold setZ
  by_cases e : i = k
  · subst e; rw [if_pos rfl]; exact hv
  · rw [if_neg e]; exact h.ok i (by omega)
 ·
  unfold setZ
  by_cases e : i = k
  · subst e; rw [if_pos rfl]; exact hu hun h1 h3
  · rw [if_neg e]; exact h.uni hun i h1 (by omega) h3
def RemPost (w : World) (T : ByteArray) (e : Ending) (w' : World) : Prop :=
 ∃ g z, e = .returned (.agg #[.string T, .slice (some ⟨g, 0, none⟩) T.size T.size]) ∧ w.heap.size ≤ g ∧ IntsAt w' g 0 T.size z ∧ Ear T z T.size ∧ Below w.heap.size w w'
structure RemRel (w wr : World) (T : ByteArray) (k : Nat) (z : Nat → Int) (D : DataW Unit) : Prop where
 below : Below w.heap.size w wr
 res : wr.heap[w.heap.size]? = some (.cells #[.string .empty, .slice none 0 0] 163 (0, 0))
 row : wr.rowIs (w.heap.size + 1) 3 T.size (fun i => .int .i64 (if i < k then z i else 0))
 map : wr.ownsMap Tryz.prog 9 (plainElem Tryz.prog 3) (w.heap.size + 1 + 1) k D
 ear : Ear T z k
 lat : Lat T D k
theorem lawS : Maps.Keyed Tryz.prog 9 := Maps.string_keyed Tryz.underlying9
theorem zeroI (w : World) : (zeroValue 3).run Tryz.prog w = .ok (.int .i64 0) w := by kernel_rfl
theorem row_setZ {w : World} {g n k : Nat} {z : Nat → Int} {v : Int} (h : w.rowIs g 3 n (fun i => .int .i64 (if i < k then z i else 0))) : (w.setCell ⟨g, k, none⟩ (.int .i64 v)).rowIs g 3 n (fun i => .int .i64 (if i < k + 1 then setZ z k v i else 0)) := by
 refine (h.set k _).congr (fun i _ => ?_)
 unfold setZ
 by_cases e : i = k
 · subst e; rw [if_pos rfl, if_pos (by omega), if_pos rfl]
 ·
  rw [if_neg e]
  by_cases hl : i < k
  · rw [if_pos hl, if_pos (by omega), if_neg e]
  · rw [if_neg hl, if_neg (by omega)]
theorem rem_start (w : World) (T : ByteArray) : RemRel w (((w.alloc (.cells #[.string ⟨#[]⟩, .slice none 0 0] 163)).alloc (.cells (madeCells #[.int .i64 0] T.size) 3)).alloc (.map #[] 0)) T 0 (fun _ => 0) (.map []) := by
 have e1 : (w.alloc (.cells #[.string ⟨#[]⟩, .slice none 0 0] 163)).heap.size = w.heap.size + 1 := by simp
 have e2 : ((w.alloc (.cells #[.string ⟨#[]⟩, .slice none 0 0] 163)).alloc (.cells (madeCells #[.int .i64 0] T.size) 3)).heap.size = w.heap.size + 1 + 1 := by simp
 refine ⟨(((Below.refl _ _).alloc (Nat.le_refl _) _).alloc (by simp) _).alloc (by simp; omega) _, ?_, ?_, ?_, ⟨fun i h => by omega, fun _ i _ h => by omega⟩, Lat.start T⟩
 ·
  rw [Below.heap_alloc _ _ _ (by simp; omega), Below.heap_alloc _ _ _ (by simp)]
  exact heap_alloc_last w _
 ·
  have := World.rowIs_made (w.alloc (.cells #[.string ⟨#[]⟩, .slice none 0 0] 163)) (.int .i64 0) T.size 3
  rw [e1] at this
  exact (this.alloc _).congr (fun i _ => by simp)
 ·
  have := World.ownsMap_made (H := Unit) ((w.alloc (.cells #[.string ⟨#[]⟩, .slice none 0 0] 163)).alloc (.cells (madeCells #[.int .i64 0] T.size) 3)) Tryz.prog 9 (plainElem Tryz.prog 3)
  rw [e2] at this
  exact this
theorem row_setZ2 {w : World} {g n k : Nat} {z : Nat → Int} {u v : Int} (h : w.rowIs g 3 n (fun i => .int .i64 (if i < k + 1 then setZ z k u i else 0))) : (w.setCell ⟨g, k, none⟩ (.int .i64 v)).rowIs g 3 n (fun i => .int .i64 (if i < k + 1 then setZ z k v i else 0)) := by
 refine (h.set k _).congr (fun i _ => ?_)
 unfold setZ
 by_cases e : i = k
 · subst e; rw [if_pos rfl, if_pos (by omega), if_pos rfl]
 · rw [if_neg e, if_neg e, if_neg e]
theorem i64d_inj {a b : Int} (h : i64d a = i64d b) : a = b := by
 unfold i64d at h
 injection h with h
 injection h
theorem rem_grown {w w0 w1 : World} {T : ByteArray} {k : Nat} {z : Nat → Int} {D : DataW Unit} (hb : Below w.heap.size w w0) (hres : w0.heap[w.heap.size]? = some (.cells #[.string .empty, .slice none 0 0] 163 (0, 0)))
 (hrow : w0.rowIs (w.heap.size + 1) 3 T.size (fun i => .int .i64 (if i < k then z i else 0))) (hg : w0.grownBy w1 (some (w.heap.size + 1 + 1))) (hm : w1.ownsMap Tryz.prog 9 (plainElem Tryz.prog 3) (w.heap.size + 1 + 1) k D) (he : Ear T z k) (hl : Lat T D k) : RemRel w w1 T k z D := by
 refine ⟨hb.grown hg hb.size (fun j hj => by cases hj; omega), ?_, hrow.of_block (hg.block _ hrow.lt (by intro e; injection e with e; omega)), hm, he, hl⟩
 rw [hg.block _ (by exact (Array.getElem?_eq_some_iff.1 hres).1) (by intro e; injection e with e; omega)]
 exact hres
set_option maxRecDepth 100000 in
set_option maxHeartbeats 1000000 in
theorem remember_any (T : ByteArray) (w : World) (hT : T.size ≤ 5000) : Calls Tryz.prog 102 #[.string T] w (RemPost w T) := by
 have hmm := @run_makeMap Tryz.prog
 have hmk := run_make_row' (P := Tryz.prog) 61 3 (.int .i64 0) 8 Tryz.underlying61 Tryz.info3 rfl .i64 .i64 T.size (by omega) (by omega)
 go_enter Tryz.func102, Tryz.ntmps102
 go_wp2
 go_loopw [15] (fun x wr => ∃ (k : Nat) (z : Nat → Int) (D : DataW Unit), k ≤ T.size ∧ x = .int .i64 (k : Nat) ∧ RemRel w wr T k z D) (fun x _ => T.size - (intOf x).toNat)
 case atStart => exact ⟨0, _, _, by omega, rfl, rem_start w T⟩
 case round =>
  obtain ⟨k, z, D, hk, rfl, hrel⟩ := hrel
  clear hmm hmk
  by_cases hlt : k < T.size
  ·
   have c0 := hrel.row.cell hlt
   have f0 := hrel.row.frozen k
   by_cases h3 : T.size < k + 3
   ·
    have hI : (T.size : Int) - (k : Int) < 3 := by omega
    have R : RemRel w (wr.setCell ⟨w.heap.size + 1, k, none⟩ (.int .i64 (-1))) T (k + 1) (setZ z k (-1)) D :=
     ⟨hrel.below.setCell (by show w.heap.size ≤ w.heap.size + 1; omega) _, by rw [Below.heap_setCell _ _ _ _ (by show w.heap.size ≠ w.heap.size + 1; omega)]; exact hrel.res, row_setZ hrel.row, (hrel.map.setCell (by show w.heap.size + 1 + 1 ≠ w.heap.size + 1; omega) _).mono (by omega), hrel.ear.more (Or.inl rfl) (fun _ _ h => by omega), hrel.lat.pass h3⟩
    clear hrel
    go_wp2
    go_roundw
    case rel => exact ⟨k + 1, _, _, by omega, by go_num, R⟩
    case measure => simp [intOf]; omega
   ·
    have hI : ¬ (T.size : Int) - (k : Int) < 3 := by omega
    have hI2 : (k : Int) + 3 ≤ (T.size : Int) := by omega
    have hsz : (T.extract k (k + 3)).size = 3 := by rw [ByteArray.size_extract]; omega
    have hkey : keyOf Tryz.prog 9 (.string (T.extract k (k + 3))) = some (.string (key3 T k)) := WideMaps.keyOf_string_mk Tryz.underlying9 (by rw [hsz]; unfold maxLen; omega)
    have hown := hrel.map.setCell (a := ⟨w.heap.size + 1, k, none⟩) (by show w.heap.size + 1 + 1 ≠ w.heap.size + 1; omega) (.int .i64 (-1))
    have hMap := hrel.map.isMap
    cases hhas : Maps.has D (.string (key3 T k)) with
    |
     false =>
     have hE := hrel.ear.more (k := k) (v := -1) (Or.inl rfl) (fun hu h1 _ => by have := (hrel.lat.uni hu h1 (by omega)).1; rw [key3_uni hu (i := k - 1) (j := k) (by omega) (by omega), hhas] at this; exact absurd this (by simp))
     have hL := hrel.lat.put hMap (by omega)
     have hbel : Below w.heap.size w (wr.setCell ⟨w.heap.size + 1, k, none⟩ (.int .i64 (-1))) := hrel.below.setCell (by show w.heap.size ≤ w.heap.size + 1; omega) _
     have hrow := row_setZ (v := -1) hrel.row
     have hres : (wr.setCell ⟨w.heap.size + 1, k, none⟩ (.int .i64 (-1))).heap[w.heap.size]? = _ := (Below.heap_setCell _ _ _ _ (by show w.heap.size ≠ w.heap.size + 1; omega)).trans hrel.res
     clear hrel
     go_wp2_with (first | (at_lookup; refine wpList_lookup_own_ok_int _ rfl _ _ 179 rfl 9 3 .i64 lawS Tryz.underlying179 Tryz.underlying3 (zeroI _) (w.heap.size + 1 + 1) k _ rfl hown _ _ rfl hkey ?_; intro c hat hwc; rw [hhas]) | (at_mapUpdate; refine wpList_mapUpdate_own _ rfl _ _ _ 179 rfl 9 3 lawS Tryz.underlying179 _ (w.heap.size + 1 + 1) k _ rfl hown (by unfold maxLen; omega) _ _ _ rfl rfl hkey _ [] (plainElem_int Tryz.underlying3 (WalkArith.wf_i64 (by omega))) ?_; intro w1 hown1 hgrow1) | fail)
     have R : RemRel w w1 T (k + 1) (setZ z k (-1)) (D.put (.string (key3 T k)) (i64d k)) := rem_grown hbel hres hrow hgrow1 hown1 hE hL
     go_roundw
     case rel => exact ⟨k + 1, _, _, by omega, by go_num, R⟩
     case measure => simp [intOf]; omega
    |
     true =>
     obtain ⟨v, hv1, hv2, hv3, hv4⟩ := hrel.lat.ok _ hhas
     have hE := hrel.ear.more (k := k) (v := (v : Int)) (Or.inr ⟨v, rfl, hv2, by omega, key3_same hv3 (by omega) hv4⟩) (fun hu h1 _ => by
      have e := (hrel.lat.uni hu h1 (by omega)).2
      rw [key3_uni hu (i := k - 1) (j := k) (by omega) (by omega)] at e
      exact i64d_inj (hv1.symm.trans e))
     have hL := hrel.lat.put hMap (by omega)
     have hbel : Below w.heap.size w ((wr.setCell ⟨w.heap.size + 1, k, none⟩ (.int .i64 (-1))).setCell ⟨w.heap.size + 1, k, none⟩ (.int .i64 (v : Int))) := (hrel.below.setCell (by show w.heap.size ≤ w.heap.size + 1; omega) _).setCell (by show w.heap.size ≤ w.heap.size + 1; omega) _
     have hrow1 := row_setZ (v := -1) hrel.row
     have c2 := hrow1.cell hlt
     have f2 := hrow1.frozen k
     have hrow := row_setZ2 (v := (v : Int)) hrow1
     have hres : ((wr.setCell ⟨w.heap.size + 1, k, none⟩ (.int .i64 (-1))).setCell ⟨w.heap.size + 1, k, none⟩ (.int .i64 (v : Int))).heap[w.heap.size]? = _ := (Below.heap_setCell _ _ _ _ (by show w.heap.size ≠ w.heap.size + 1; omega)).trans ((Below.heap_setCell _ _ _ _ (by show w.heap.size ≠ w.heap.size + 1; omega)).trans hrel.res)
     have hown2 := hown.setCell (a := ⟨w.heap.size + 1, k, none⟩) (by show w.heap.size + 1 + 1 ≠ w.heap.size + 1; omega) (.int .i64 (v : Int))
     clear hrel hrow1
     go_wp2_with (first | (at_lookup; refine wpList_lookup_own_ok_int _ rfl _ _ 179 rfl 9 3 .i64 lawS Tryz.underlying179 Tryz.underlying3 (zeroI _) (w.heap.size + 1 + 1) k _ rfl hown _ _ rfl hkey ?_; intro c hat hwc; rw [hhas]; obtain rfl : c = (v : Int) := i64d_inj (hat.symm.trans hv1)) | (at_mapUpdate; refine wpList_mapUpdate_own _ rfl _ _ _ 179 rfl 9 3 lawS Tryz.underlying179 _ (w.heap.size + 1 + 1) k _ rfl hown2 (by unfold maxLen; omega) _ _ _ rfl rfl hkey _ [] (plainElem_int Tryz.underlying3 (WalkArith.wf_i64 (by omega))) ?_; intro w1 hown1 hgrow1) | fail)
     have R : RemRel w w1 T (k + 1) (setZ z k (v : Int)) (D.put (.string (key3 T k)) (i64d k)) := rem_grown hbel hres hrow hgrow1 hown1 hE hL
     go_roundw
     case rel => exact ⟨k + 1, _, _, by omega, by go_num, R⟩
     case measure => simp [intOf]; omega
  ·
   obtain rfl : k = T.size := by omega
   have hI : IntsAt wr (w.heap.size + 1) 0 T.size z := ⟨fun i hi => by have := hrel.row.cell hi; rw [if_pos hi] at this; rw [Nat.zero_add]; exact this, hrel.row.lt⟩
   have hR : wr.rowIs w.heap.size 163 2 (fun i => if i = 0 then .string .empty else .slice none 0 0) := ⟨_, hrel.res, rfl, fun i hi => by match i, hi with | 0, _ => rfl | 1, _ => rfl⟩
   have c0 := hR.cell (i := 0) (by omega)
   have f0 := hR.frozen 0
   have hR1 := hR.set 0 (.string T)
   have c1 := hR1.cell (i := 1) (by omega)
   have f1 := hR1.frozen 1
   have hR2 : ((wr.setCell ⟨w.heap.size, 0, none⟩ (.string T)).setCell ⟨w.heap.size, 1, none⟩ (.slice (some ⟨w.heap.size + 1, 0, none⟩) T.size T.size)).rowIs w.heap.size 163 2 (fun i => if i = 0 then .string T else .slice (some ⟨w.heap.size + 1, 0, none⟩) T.size T.size) := (hR1.set 1 _).congr (fun i hi => by
    rcases (by omega : i = 0 ∨ i = 1) with e | e <;> subst e <;> simp)
   have hne := pbox_row hR2
   have hbel : Below w.heap.size w ((wr.setCell ⟨w.heap.size, 0, none⟩ (.string T)).setCell ⟨w.heap.size, 1, none⟩ (.slice (some ⟨w.heap.size + 1, 0, none⟩) T.size T.size)) := (hrel.below.setCell (Nat.le_refl _) _).setCell (Nat.le_refl _) _
   have hE := hrel.ear
   have hI2 : IntsAt ((wr.setCell ⟨w.heap.size, 0, none⟩ (.string T)).setCell ⟨w.heap.size, 1, none⟩ (.slice (some ⟨w.heap.size + 1, 0, none⟩) T.size T.size)) (w.heap.size + 1) 0 T.size z := by
    refine ⟨fun i hi => ?_, by simp [World.setCell]; exact hI.lt⟩
    have e := hI.cell i hi
    simp only [World.cell?] at e ⊢
    rw [Below.heap_setCell _ _ _ _ (by show w.heap.size + 1 ≠ w.heap.size; omega), Below.heap_setCell _ _ _ _ (by show w.heap.size + 1 ≠ w.heap.size; omega)]
    exact e
   simp only [if_true, one_ne0, if_false] at c0 c1
   clear hrel hI hR hR1 hR2
   go_wp2
   exact bodyPost_ret (v := .agg #[.string T, .slice (some ⟨w.heap.size + 1, 0, none⟩) T.size T.size]) (results_cell_row Tryz.results102 _ _ w.heap.size 163 _ (0, 0) _ rfl hne Tryz.underlying163 rfl Tryz.size163) rfl ⟨w.heap.size + 1, z, rfl, by omega, hI2, hE, hbel⟩
end Go.Proofs.YtecddphahiadlaaGreatDoor
