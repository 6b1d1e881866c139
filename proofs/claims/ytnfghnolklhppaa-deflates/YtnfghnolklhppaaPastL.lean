/- The program's past: longest. -/
import Derived.Test.YtnfghnolklhppaaPastA
namespace Go.Proofs.Ytnfghnolklhppaa
open Go.RowKit

/-- A text all of one kind. -/
def Uni (T : ByteArray) : Prop := ∀ i, i < T.size → tb T i = tb T 0

/-- For each place the last one ahead at which the same 3 bytes begin, or -1. -/
structure Ear (T : ByteArray) (z : Nat → Int) (m : Nat) : Prop where
  ok : ∀ i, i < m → z i = -1 ∨ ∃ p : Nat, z i = (p : Int) ∧ p < i ∧ i + 3 ≤ T.size ∧ Alk T p i 3
  uni : Uni T → ∀ i, 1 ≤ i → i < m → i + 3 ≤ T.size → z i = ((i - 1 : Nat) : Int)

theorem Alk.trans {T : ByteArray} {p q r k : Nat} (h1 : Alk T p q k) (h2 : Alk T q r k) : Alk T p r k := fun i hi => (h1 i hi).trans (h2 i hi)

def Good (T : ByteArray) (a l d : Nat) : Prop := 3 ≤ l ∧ l ≤ 258 ∧ a + l ≤ T.size ∧ 1 ≤ d ∧ d ≤ a ∧ Alk T (a - d) a l ∧ (Uni T → l = min 258 (T.size - a) ∧ d = 1)
/-- What longest answers. -/
def LongOk (T : ByteArray) (a l d : Nat) : Prop := (l = 0 ∧ d = 0 ∧ (Uni T → a = 0 ∨ T.size < a + 3)) ∨ Good T a l d

/-- Within its loop. -/
def LgIn (T : ByteArray) (z : Nat → Int) (a l d : Nat) (p : Int) : Prop :=
  (l = 0 ∧ d = 0 ∧ p = z a) ∨ (Good T a l d ∧ (p = -1 ∨ ∃ q : Nat, p = (q : Int) ∧ q < a ∧ a + 3 ≤ T.size ∧ Alk T q a 3))

theorem LgIn.place {T : ByteArray} {z : Nat → Int} {a l d : Nat} {p : Int} (hz : Ear T z T.size) (ha : a < T.size) (h : LgIn T z a l d p) : p = -1 ∨ ∃ q : Nat, p = (q : Int) ∧ q < a ∧ a + 3 ≤ T.size ∧ Alk T q a 3 := by
  rcases h with ⟨_, _, e⟩ | ⟨_, h⟩
  · rw [e]; exact hz.ok a ha
  · exact h
theorem LgIn.stop {T : ByteArray} {z : Nat → Int} {a l d : Nat} (hz : Ear T z T.size) (ha : a < T.size) (h : LgIn T z a l d (-1)) : LongOk T a l d := by
  rcases h with ⟨h1, h2, h3⟩ | ⟨h, _⟩
  · refine Or.inl ⟨h1, h2, fun hu => ?_⟩
    rcases (by omega : a = 0 ∨ T.size < a + 3 ∨ (1 ≤ a ∧ a + 3 ≤ T.size)) with e | e | e
    · exact Or.inl e
    · exact Or.inr e
    · have := hz.uni hu a e.1 ha e.2
      omega
  · exact Or.inr h
theorem LgIn.full {T : ByteArray} {z : Nat → Int} {a l d : Nat} {p : Int} (ha : a < T.size) (h : LgIn T z a l d p) (hl : min 258 (T.size - a) ≤ l) : LongOk T a l d := by
  rcases h with ⟨h1, _⟩ | ⟨h, _⟩
  · omega
  · exact Or.inr h
theorem LgIn.next {T : ByteArray} {z : Nat → Int} {a l d q k : Nat} (hz : Ear T z T.size) (ha : a < T.size) (h : LgIn T z a l d (q : Int)) (hl : l < min 258 (T.size - a)) (hk : k ≤ min 258 (T.size - a)) (hs : Alk T q a k) (hn : k < min 258 (T.size - a) → tb T (q + k) ≠ tb T (a + k)) :
    (l < k → LgIn T z a k (a - q) (z q)) ∧ (¬ l < k → LgIn T z a l d (z q)) ∧ (z q = -1 ∨ ∃ r : Nat, z q = (r : Int) ∧ r < q) := by
  obtain ⟨q', hq, hqa, ha3, h3⟩ : ∃ q' : Nat, (q : Int) = (q' : Int) ∧ q' < a ∧ a + 3 ≤ T.size ∧ Alk T q' a 3 := by
    rcases h.place hz ha with e | e
    · omega
    · exact e
  obtain rfl : q = q' := by omega
  have hk3 : 3 ≤ k := by
    rcases (by omega : k < 3 ∨ 3 ≤ k) with e | e
    · exact absurd (h3 k e) (hn (by omega))
    · exact e
  have hzq : z q = -1 ∨ ∃ r : Nat, z q = (r : Int) ∧ r < a ∧ a + 3 ≤ T.size ∧ Alk T r a 3 := by
    rcases hz.ok q (by omega) with e | ⟨r, e1, e2, _, e4⟩
    · exact Or.inl e
    · exact Or.inr ⟨r, e1, by omega, ha3, e4.trans h3⟩
  refine ⟨fun hlk => Or.inr ⟨⟨hk3, by omega, by omega, by omega, by omega, by rw [show a - (a - q) = q from by omega]; exact hs, fun hu => ?_⟩, hzq⟩, fun hlk => ?_, ?_⟩
  · have hkm : k = min 258 (T.size - a) := by
      rcases (by omega : k < min 258 (T.size - a) ∨ k = min 258 (T.size - a)) with e | e
      · exact absurd ((hu (q + k) (by omega)).trans (hu (a + k) (by omega)).symm) (hn e)
      · exact e
    refine ⟨hkm, ?_⟩
    rcases h with ⟨_, _, e⟩ | ⟨g, _⟩
    · have := hz.uni hu a (by omega) ha ha3
      omega
    · have := (g.2.2.2.2.2.2 hu).1
      omega
  · rcases h with ⟨e, _, _⟩ | ⟨g, _⟩
    · omega
    · exact Or.inr ⟨g, hzq⟩
  · rcases hz.ok q (by omega) with e | ⟨r, e1, e2, _⟩
    · exact Or.inl e
    · exact Or.inr ⟨r, e1, e2⟩

def LongPost (w : World) (T : ByteArray) (a : Nat) (e : Ending) (w' : World) : Prop :=
  ∃ l d : Nat, e = .returned (.tuple #[.int .i64 (l : Nat), .int .i64 (d : Nat)]) ∧ LongOk T a l d ∧ Below w.heap.size w w'

/-- The past's box. -/
structure PBox (w wr : World) (T : ByteArray) (ge cE : Nat) : Prop where
  below : Below w.heap.size w wr
  row : wr.rowIs w.heap.size 89 2 (fun i => if i = 0 then .string T else .slice (some ⟨ge, 0, none⟩) T.size cE)

theorem Try.size89 : (Try.prog.info? 89).map (·.size) = some 2 := by kernel_rfl
theorem one_ne0 : (1 = 0) = False := by simp
theorem pbox_row {w : World} {g ge n cE : Nat} {T : ByteArray} (h : w.rowIs g 89 2 (fun i => if i = 0 then .string T else .slice (some ⟨ge, 0, none⟩) n cE)) : w.heap[g]? = some (.cells #[.string T, .slice (some ⟨ge, 0, none⟩) n cE] 89 (0, 0)) := by
  obtain ⟨A, hb, hs, ha⟩ := h
  have e : A = #[.string T, .slice (some ⟨ge, 0, none⟩) n cE] := by
    apply Array.ext_getElem?
    intro i
    by_cases hi : i < 2
    · rw [ha i hi]
      rcases (by omega : i = 0 ∨ i = 1) with e | e <;> subst e <;> rfl
    · rw [Array.getElem?_eq_none (by omega), Array.getElem?_eq_none (by simp; omega)]
  rw [hb, e]

set_option maxRecDepth 4000 in
set_option maxHeartbeats 1000000 in
theorem longest_any (a ge cE : Nat) (z : Nat → Int) (T : ByteArray) (w : World) (hT : T.size ≤ 5000) (ha : a < T.size) (hz : Ear T z T.size) (hi : IntsAt w ge 0 T.size z) :
    Calls Try.prog 54 #[.agg #[.string T, .slice (some ⟨ge, 0, none⟩) T.size cE], .int .i64 (a : Int)] w (LongPost w T a) := by
  have e0 := World.rowIs_alloc w #[.string T, .slice (some ⟨ge, 0, none⟩) T.size cE] 89 (fun i => if i = 0 then .string T else .slice (some ⟨ge, 0, none⟩) T.size cE) (fun i hi => by match i, hi with | 0, _ => rfl | 1, _ => rfl)
  have B0 : Below w.heap.size w (w.alloc (.cells #[.string T, .slice (some ⟨ge, 0, none⟩) T.size cE] 89)) := (Below.refl _ _).alloc (Nat.le_refl _) _
  have X0 : PBox w (w.alloc (.cells #[.string T, .slice (some ⟨ge, 0, none⟩) T.size cE] 89)) T ge cE := ⟨B0, e0⟩
  have C0 := e0.cell (i := 0) (by simp)
  have C1 := e0.cell (i := 1) (by simp)
  have CA := (hi.later B0).cell a ha
  simp only [Nat.zero_add] at CA
  have L0 : LgIn T z a 0 0 (z a) := Or.inl ⟨rfl, rfl, rfl⟩
  have haI : (a : Int) < (T.size : Int) := by omega
  by_cases hm : T.size - a < 258
  · have hmI : (T.size : Int) - (a : Int) < 258 := by omega
    have hmJ : ¬ (258 : Int) ≤ (T.size : Int) - (a : Int) := by omega
    go_enter Try.func54, Try.ntmps54
    go_wp2
    go_loopw [4, 5, 7] (fun x y p wr => ∃ (l d : Nat) (q : Int), x = .int .i64 (l : Nat) ∧ y = .int .i64 (d : Nat) ∧ p = .int .i64 q ∧ LgIn T z a l d q ∧ PBox w wr T ge cE) (fun _ _ p _ => (intOf p + 1).toNat)
    case atStart => exact ⟨0, 0, z a, rfl, rfl, rfl, L0, X0⟩
    case round =>
      obtain ⟨l, d, q, rfl, rfl, rfl, hL, hX⟩ := hrel
      clear L0 X0 C0 C1 CA
      have k0 := hX.row.cell (i := 0) (by omega)
      have k1 := hX.row.cell (i := 1) (by omega)
      simp only [if_true, one_ne0, if_false] at k0 k1
      rcases hL.place hz ha with e | ⟨p, e, hpa, ha3, _⟩
      · subst e
        have LO := hL.stop hz ha
        have hB := hX.below
        clear hL hX k0 k1
        go_wp2
        go_ret2
        exact ⟨l, d, rfl, LO, hB⟩
      · subst e
        have hp0 : (0 : Int) ≤ (p : Int) := by omega
        by_cases hl : l < T.size - a
        · have hlM : l < min 258 (T.size - a) := by omega
          have CP := (hi.later hX.below).cell p (by omega)
          simp only [Nat.zero_add] at CP
          have hB := hX.below
          have hwl := hX.row.lt
          have hrow : wr.heap[w.heap.size]? = some (.cells #[.string T, .slice (some ⟨ge, 0, none⟩) T.size cE] 89 (0, 0)) := pbox_row hX.row
          have hsz : (Try.prog.info? 89).map (·.size) = some (#[Value.string T, .slice (some ⟨ge, 0, none⟩) T.size cE]).size := Try.size89
          have hpI : (p : Int) < (T.size : Int) := by omega
          have hlI : (l : Int) < (T.size : Int) - (a : Int) := by omega
          go_wp2_with (first | (refine wpList_load_row_g rfl 89 (.tmp 2) rfl w.heap.size rfl 89 #[.string T, .slice (some ⟨ge, 0, none⟩) T.size cE] (0, 0) _ hrow Try.underlying89 rfl hsz ?_) | fail)
          refine (alike_int p a (T.size - a) ge T.size cE _ T _ (by omega) hT (by omega) (by omega)).mono ?_
          rintro e w2 ⟨k, rfl, hk, hs, hn, hb2⟩
          obtain ⟨n1, n2, n3⟩ := hL.next hz ha hlM (k := k) (by omega) hs (fun h => hn (by omega))
          have X2 : PBox w w2 T ge cE := ⟨hB.trans (hb2.mono hB.size), hX.row.of_block (hb2.block _ hwl)⟩
          have m0 := X2.row.cell (i := 0) (by omega)
          have m1 := X2.row.cell (i := 1) (by omega)
          simp only [if_true, one_ne0, if_false] at m0 m1
          have CQ := (hi.later X2.below).cell p (by omega)
          simp only [Nat.zero_add] at CQ
          have hz1 : -1 ≤ z p ∧ z p < (p : Int) := by
            rcases n3 with e | ⟨r, e, _⟩ <;> omega
          clear hL hX k0 k1 hs hn hb2 hB CP n3 hrow hsz
          by_cases hkl : l < k
          · have N1 := n1 hkl
            have hdI : (a : Int) - (p : Int) = ((a - p : Nat) : Int) := by omega
            clear n1 n2
            go_wp2
            go_roundw
            case rel => exact ⟨k, a - p, z p, rfl, by rw [← hdI], rfl, N1, X2⟩
            case measure => simp [intOf]; omega
          · have N2 := n2 hkl
            clear n1 n2
            go_wp2
            go_roundw
            case rel => exact ⟨l, d, z p, rfl, rfl, rfl, N2, X2⟩
            case measure => simp [intOf]; omega
        · have LO := hL.full ha (by omega)
          have hB := hX.below
          clear hL hX k0 k1
          have hlI : ¬ (l : Int) < (T.size : Int) - (a : Int) := by omega
          go_wp2
          go_ret2
          exact ⟨l, d, rfl, LO, hB⟩
  · have hmI : ¬ (T.size : Int) - (a : Int) < 258 := by omega
    have hmJ : (258 : Int) ≤ (T.size : Int) - (a : Int) := by omega
    go_enter Try.func54, Try.ntmps54
    go_wp2
    go_loopw [4, 5, 7] (fun x y p wr => ∃ (l d : Nat) (q : Int), x = .int .i64 (l : Nat) ∧ y = .int .i64 (d : Nat) ∧ p = .int .i64 q ∧ LgIn T z a l d q ∧ PBox w wr T ge cE) (fun _ _ p _ => (intOf p + 1).toNat)
    case atStart => exact ⟨0, 0, z a, rfl, rfl, rfl, L0, X0⟩
    case round =>
      obtain ⟨l, d, q, rfl, rfl, rfl, hL, hX⟩ := hrel
      clear L0 X0 C0 C1 CA
      have k0 := hX.row.cell (i := 0) (by omega)
      have k1 := hX.row.cell (i := 1) (by omega)
      simp only [if_true, one_ne0, if_false] at k0 k1
      rcases hL.place hz ha with e | ⟨p, e, hpa, ha3, _⟩
      · subst e
        have LO := hL.stop hz ha
        have hB := hX.below
        clear hL hX k0 k1
        go_wp2
        go_ret2
        exact ⟨l, d, rfl, LO, hB⟩
      · subst e
        have hp0 : (0 : Int) ≤ (p : Int) := by omega
        by_cases hl : l < 258
        · have hlM : l < min 258 (T.size - a) := by omega
          have CP := (hi.later hX.below).cell p (by omega)
          simp only [Nat.zero_add] at CP
          have hB := hX.below
          have hwl := hX.row.lt
          have hrow : wr.heap[w.heap.size]? = some (.cells #[.string T, .slice (some ⟨ge, 0, none⟩) T.size cE] 89 (0, 0)) := pbox_row hX.row
          have hsz : (Try.prog.info? 89).map (·.size) = some (#[Value.string T, .slice (some ⟨ge, 0, none⟩) T.size cE]).size := Try.size89
          have hpI : (p : Int) < (T.size : Int) := by omega
          have hlI : (l : Int) < 258 := by omega
          go_wp2_with (first | (refine wpList_load_row_g rfl 89 (.tmp 2) rfl w.heap.size rfl 89 #[.string T, .slice (some ⟨ge, 0, none⟩) T.size cE] (0, 0) _ hrow Try.underlying89 rfl hsz ?_) | fail)
          refine (alike_int p a 258 ge T.size cE _ T _ (by omega) hT (by omega) (by omega)).mono ?_
          rintro e w2 ⟨k, rfl, hk, hs, hn, hb2⟩
          obtain ⟨n1, n2, n3⟩ := hL.next hz ha hlM (k := k) (by omega) hs (fun h => hn (by omega))
          have X2 : PBox w w2 T ge cE := ⟨hB.trans (hb2.mono hB.size), hX.row.of_block (hb2.block _ hwl)⟩
          have m0 := X2.row.cell (i := 0) (by omega)
          have m1 := X2.row.cell (i := 1) (by omega)
          simp only [if_true, one_ne0, if_false] at m0 m1
          have CQ := (hi.later X2.below).cell p (by omega)
          simp only [Nat.zero_add] at CQ
          have hz1 : -1 ≤ z p ∧ z p < (p : Int) := by
            rcases n3 with e | ⟨r, e, _⟩ <;> omega
          clear hL hX k0 k1 hs hn hb2 hB CP n3 hrow hsz
          by_cases hkl : l < k
          · have N1 := n1 hkl
            have hdI : (a : Int) - (p : Int) = ((a - p : Nat) : Int) := by omega
            clear n1 n2
            go_wp2
            go_roundw
            case rel => exact ⟨k, a - p, z p, rfl, by rw [← hdI], rfl, N1, X2⟩
            case measure => simp [intOf]; omega
          · have N2 := n2 hkl
            clear n1 n2
            go_wp2
            go_roundw
            case rel => exact ⟨l, d, z p, rfl, rfl, rfl, N2, X2⟩
            case measure => simp [intOf]; omega
        · have LO := hL.full ha (by omega)
          have hB := hX.below
          clear hL hX k0 k1
          have hlI : ¬ (l : Int) < 258 := by omega
          go_wp2
          go_ret2
          exact ⟨l, d, rfl, LO, hB⟩

end Go.Proofs.Ytnfghnolklhppaa
