import Derived.Test.YtecddphahiadlaaGreatDoorRows
import Derived.WalkKit
import Derived.WalkSpells
import Derived.WalkLawsBesides
import Derived.Lib.Strings
import Derived.Deep.OwnRows
import Derived.Deep.WholeRow
import Derived.Laws.Rows
import Derived.Laws.Tables
import Derived.ArgAppend
/- Plain facts: codes of lengths as numbers and texts; small laws of the walk. -/
namespace Go.Proofs.YtecddphahiadlaaGreatDoor
open Go.RowKit
theorem Tryz.info5 : (Tryz.prog.info? 5).map (fun i => (i.zero, i.size, i.bytes)) = some (some (.int .u8 0), 1, 1) := by kernel_rfl
theorem Tryz.info9 : (Tryz.prog.info? 9).map (fun i => (i.zero, i.size, i.bytes)) = some (some (.string .empty), 1, 16) := by kernel_rfl
theorem Tryz.info3 : (Tryz.prog.info? 3).map (fun i => (i.zero, i.size, i.bytes)) = some (some (.int .i64 0), 1, 8) := by kernel_rfl
theorem ret_int {k : IntKind} {a b : Int} (h : a = b) : Ending.returned (.int k a) = .returned (.int k b) := by rw [h]
theorem ret_bool {a b : Bool} (h : a = b) : Ending.returned (.bool a) = .returned (.bool b) := by rw [h]
/-- Letter i of the code x of m letters, its highest bit first. -/
def bitAt (x m i : Nat) : Nat := x / 2 ^ (m - 1 - i) % 2
def bitsL (x m : Nat) : List UInt8 := (List.range m).map fun i => UInt8.ofNat (48 + bitAt x m i)
def bitsB (x m : Nat) : ByteArray := ⟨(bitsL x m).toArray⟩
theorem bitsL_length (x m : Nat) : (bitsL x m).length = m := by simp [bitsL]
theorem bitAt_lt (x m i : Nat) : bitAt x m i < 2 := Nat.mod_lt _ (by omega)
theorem and_one_i64 (i : Nat) (hi : i < 9223372036854775808) : bits BinOp.and IntKind.i64 (i : Int) 1 = ((i % 2 : Nat) : Int) := by
 have h1 : (BitVec.ofInt 64 (i : Int)).toNat = i := by
  rw [BitVec.ofInt_natCast, BitVec.toNat_ofNat]; exact Nat.mod_eq_of_lt (by omega)
 show IntKind.i64.wrap ((BitVec.ofInt 64 (i : Int) &&& BitVec.ofInt 64 1).toNat : Int) = _
 have h2 : (BitVec.ofInt 64 1).toNat = 1 := by decide
 rw [BitVec.toNat_and, h1, h2, Nat.and_one_is_mod, IntKind.wrap_i64]
 omega
theorem letter_eq (x e : Nat) (hx : x < 32768) : (48 + bits BinOp.and IntKind.i64 ((x : Int) / 2 ^ e) 1) % 256 = ((48 + x / 2 ^ e % 2 : Nat) : Int) := by
 have h1 : ((x : Int) / 2 ^ e) = ((x / 2 ^ e : Nat) : Int) := by simp
 have h2 : x / 2 ^ e ≤ x := Nat.div_le_self _ _
 rw [h1, and_one_i64 _ (by omega)]
 omega
theorem addr_add0 (b j : Nat) : (⟨b, 0, none⟩ : Addr).add j = ⟨b, j, none⟩ := by
 simp only [Addr.add, Nat.zero_add]
 split
 · next h => rw [h]
 · rfl
/-- An array of sixteen numbers. -/
structure IsTal (A : Array Value) (c : Nat → Nat) : Prop where
 size : A.size = 16
 at' : ∀ i, i < 16 → A[i]? = some (.int .i64 (c i))
/-- What codes of 1 to n letters take of 1, in parts of 2^-15. -/
def kr (c : Nat → Nat) : Nat → Nat
 | 0 => 0
 | n + 1 => kr c n + c (n + 1) * 2 ^ (15 - (n + 1))
theorem pow_le_15 (n : Nat) : 2 ^ (15 - n) ≤ 32768 := by
 have : 2 ^ (15 - n) ≤ 2 ^ 15 := Nat.pow_le_pow_right (by omega) (by omega)
 simpa using this
theorem kr_le (c : Nat → Nat) (hc : ∀ i, c i ≤ 288) (n : Nat) : kr c n ≤ n * 9437184 := by
 induction n with
 | zero => simp [kr]
 |
  succ n ih =>
  have h1 := pow_le_15 (n + 1)
  have h2 := Nat.mul_le_mul (hc (n + 1)) h1
  simp only [kr]
  omega
theorem kr_wrap (c : Nat → Nat) (hc : ∀ i, c i ≤ 288) (n : Nat) (hn : n < 15) :
 wrap64 ((kr c n : Int) + wrap64 ((c (n + 1) : Int) * 2 ^ (14 - n))) = (kr c (n + 1) : Int) := by
 have h1 := kr_le c hc n
 have h2 := kr_le c hc (n + 1)
 have e : ((c (n + 1) : Int) * 2 ^ (14 - n)) = ((c (n + 1) * 2 ^ (15 - (n + 1)) : Nat) : Int) := by
  have : 15 - (n + 1) = 14 - n := by omega
  rw [this]; simp
 simp only [kr] at h2 ⊢
 generalize c (n + 1) * 2 ^ (15 - (n + 1)) = p at e h2 ⊢
 rw [e, IntWalk.wrap64_in (p : Int) ⟨by omega, by omega⟩, IntWalk.wrap64_in _ ⟨by omega, by omega⟩]
 omega
/-- The first code of each length, as a number. -/
def fi (c : Nat → Nat) : Nat → Nat
 | 0 => 0
 | 1 => 0
 | n + 2 => (fi c (n + 1) + c (n + 1)) * 2
theorem fi_le (c : Nat → Nat) (hc : ∀ i, c i ≤ 288) (n : Nat) : fi c (n + 1) + 576 ≤ 288 * 2 ^ (n + 1) := by
 induction n with
 | zero => simp [fi]
 |
  succ n ih =>
  have h := hc (n + 1)
  simp only [fi]
  rw [Nat.pow_succ 2 (n + 1)]
  omega
theorem fi_wrap (c : Nat → Nat) (hc : ∀ i, c i ≤ 288) (n : Nat) (hn : n < 14) :
 wrap64 (wrap64 ((fi c (n + 1) : Int) + (c (n + 1) : Int)) * 2) = (fi c (n + 2) : Int) := by
 have h1 := fi_le c hc n
 have h2 := hc (n + 1)
 have h3 : 2 ^ (n + 1) ≤ 2 ^ 15 := Nat.pow_le_pow_right (by omega) (by omega)
 have h4 : (2 : Nat) ^ 15 = 32768 := rfl
 simp only [fi]
 rw [IntWalk.wrap64_in ((fi c (n + 1) : Int) + (c (n + 1) : Int)) ⟨by omega, by omega⟩, IntWalk.wrap64_in _ ⟨by omega, by omega⟩]
 omega
/-- A slice that is not nil, and its first n numbers. -/
structure IntsAt (w : World) (b off n : Nat) (z : Nat → Int) : Prop where
 cell : ∀ i, i < n → w.cell? ⟨b, off + i, none⟩ = some (.int .i64 (z i))
 lt : b < w.heap.size
theorem IntsAt.later {w w' : World} {b off n : Nat} {z : Nat → Int} (h : IntsAt w b off n z) (hb : Below w.heap.size w w') : IntsAt w' b off n z :=
 ⟨fun i hi => (hb.cell (p := ⟨b, off + i, none⟩) h.lt).trans (h.cell i hi), Nat.lt_of_lt_of_le h.lt hb.size⟩
/-- How many of the first k numbers are l. -/
def cntN (z : Nat → Int) : Nat → Nat → Nat
 | 0, _ => 0
 | k + 1, l => cntN z k l + if z k = (l : Int) then 1 else 0
theorem cntN_le (z : Nat → Int) (k l : Nat) : cntN z k l ≤ k := by
 induction k with
 | zero => simp [cntN]
 | succ k ih => simp only [cntN]; split <;> omega
/-- May the lengths be? -/
def okB (z : Nat → Int) (n : Nat) : Bool := decide (n ≤ 288 ∧ ∀ i, i < n → 0 ≤ z i ∧ z i ≤ 15)
theorem okB_iff (z : Nat → Int) (n : Nat) : okB z n = true ↔ n ≤ 288 ∧ ∀ i, i < n → 0 ≤ z i ∧ z i ≤ 15 := by
 unfold okB; rw [decide_eq_true_iff]
theorem okB_yes {z : Nat → Int} {n : Nat} (h : n ≤ 288) (h2 : ∀ i, i < n → 0 ≤ z i ∧ z i ≤ 15) : okB z n = true := (okB_iff z n).2 ⟨h, h2⟩
theorem okB_many {z : Nat → Int} {n : Nat} (h : 288 < n) : okB z n = false := by
 rw [Bool.eq_false_iff]; intro h1; have := (okB_iff z n).1 h1; omega
theorem okB_out {z : Nat → Int} {n k : Nat} (hk : k < n) (h : z k < 0 ∨ 15 < z k) : okB z n = false := by
 rw [Bool.eq_false_iff]; intro h1; have := ((okB_iff z n).1 h1).2 k hk; omega
theorem kr_succ (c : Nat → Nat) (n : Nat) : kr c (n + 1) = kr c n + c (n + 1) * 2 ^ (15 - (n + 1)) := rfl
theorem kr_mono (c : Nat → Nat) {a b : Nat} (h : a ≤ b) : kr c a ≤ kr c b := by
 induction b with
 | zero =>
  obtain rfl : a = 0 := by omega
  exact Nat.le_refl _
 |
  succ b ih =>
  by_cases e : a = b + 1
  · rw [e]; exact Nat.le_refl _
  ·
   have := ih (by omega)
   rw [kr_succ]; omega
theorem fi_kr (c : Nat → Nat) (m : Nat) (hm : m < 15) : fi c (m + 1) * 2 ^ (15 - (m + 1)) = kr c m := by
 induction m with
 | zero => simp [fi, kr]
 |
  succ m ih =>
  have h := ih (by omega)
  have e : 15 - (m + 1) = (15 - (m + 1 + 1)) + 1 := by omega
  rw [kr_succ, ← h]
  simp only [fi]
  rw [e, Nat.pow_succ]
  generalize 2 ^ (15 - (m + 1 + 1)) = p
  rw [Nat.mul_assoc, Nat.mul_comm 2 p, ← Nat.add_mul]
theorem fi_top (c : Nat → Nat) (m : Nat) (h1 : 1 ≤ m) (h2 : m ≤ 15) (hk : kr c 15 = 32768) : fi c m + c m ≤ 2 ^ m := by
 obtain ⟨q, rfl⟩ : ∃ q, m = q + 1 := ⟨m - 1, by omega⟩
 have h := fi_kr c q (by omega)
 have h3 := kr_succ c q
 have h4 := kr_mono c (show q + 1 ≤ 15 by omega)
 rw [hk, h3, ← h, ← Nat.add_mul] at h4
 have e : (32768 : Nat) = 2 ^ (q + 1) * 2 ^ (15 - (q + 1)) := by
  rw [← Nat.pow_add, show q + 1 + (15 - (q + 1)) = 15 from by omega]
 rw [e] at h4
 exact Nat.le_of_mul_le_mul_right h4 (Nat.two_pow_pos _)
theorem cntN_mono (z : Nat → Int) (l : Nat) {a b : Nat} (h : a ≤ b) : cntN z a l ≤ cntN z b l := by
 induction b with
 | zero =>
  obtain rfl : a = 0 := by omega
  exact Nat.le_refl _
 |
  succ b ih =>
  by_cases e : a = b + 1
  · rw [e]; exact Nat.le_refl _
  ·
   have := ih (by omega)
   simp only [cntN]; omega
theorem cntN_lt (z : Nat → Int) {k n m : Nat} (h : k < n) (hz : z k = (m : Int)) : cntN z k m < cntN z n m := by
 have h1 := cntN_mono z m (show k + 1 ≤ n from h)
 simp only [cntN, hz] at h1
 simp at h1
 omega
/-- The code of symbol i, as a number, if there is one. -/
def codeN (z : Nat → Int) (n i : Nat) : Nat := fi (cntN z n) (z i).toNat + cntN z i (z i).toNat
/-- .. and as a text. -/
def codeT (z : Nat → Int) (n i : Nat) : ByteArray := if z i = 0 then .empty else bitsB (codeN z n i) (z i).toNat
/-- Do the lengths fit? -/
def fitB (z : Nat → Int) (n : Nat) : Bool := okB z n && decide (kr (cntN z n) 15 = 32768)
theorem codeN_lt {z : Nat → Int} {n i : Nat} (hf : fitB z n = true) (hi : i < n) (h0 : z i ≠ 0) : codeN z n i < 2 ^ (z i).toNat := by
 simp only [fitB, Bool.and_eq_true, decide_eq_true_eq] at hf
 have hr := ((okB_iff z n).1 hf.1).2 i hi
 have h1 := fi_top (cntN z n) (z i).toNat (by omega) (by omega) hf.2
 have h2 := cntN_lt z (m := (z i).toNat) hi (by omega)
 unfold codeN
 omega
theorem codeN_lt15 {z : Nat → Int} {n i : Nat} (hf : fitB z n = true) (hi : i < n) (h0 : z i ≠ 0) : codeN z n i < 32768 := by
 have h1 := codeN_lt hf hi h0
 simp only [fitB, Bool.and_eq_true, decide_eq_true_eq] at hf
 have hr := ((okB_iff z n).1 hf.1).2 i hi
 have h3 : 2 ^ (z i).toNat ≤ 2 ^ 15 := Nat.pow_le_pow_right (by omega) (by omega)
 have h4 : (2 : Nat) ^ 15 = 32768 := rfl
 omega
theorem wpList_load_row_g {P : Program} {ops : Array Oper} {rest : List Oper} {o : Oper} {a : Act} {w : World} {Q : Exit → Act → World → Prop} (hgd : Region.wanted o (yielded ops a.tmps) = true) (ty : TypeId) (x : Operand) (ho : o.op = .load ty x)
 (g : Nat) (hx : a.eval x = .pointer (some ⟨g, 0, none⟩)) (t : TypeId) (cs : Array Value) (fr : Nat × Nat) (d : TypeDesc) (hg : w.heap[g]? = some (.cells cs t fr))
 (hu : P.underlying ty = some d) (hd : (match d with | .struct _ | .array _ _ => true | _ => false) = true) (hi : (P.info? ty).map (·.size) = some cs.size)
 (h : wpList P ops Q rest (a.put o.dst (.agg cs)) w) : wpList P ops Q (o :: rest) a w :=
 BigFrame.wpList_want hgd fun _ hK => wp_load_row ty x ho g hx t cs fr d hg hu hd hi (hK _ _ h)
theorem wpList_store_new {P : Program} {ops : Array Oper} {rest : List Oper} {o : Oper} {a : Act} {w : World} {Q : Exit → Act → World → Prop} (hgd : o.guard = none) (ty : TypeId) (x y : Operand) (ho : o.op = .store ty x y)
 (cells : Array Value) (hx : a.eval x = .pointer (some ⟨w.heap.size, 0, none⟩)) (hy : a.eval y = .agg cells)
 (old : Array Value) (hi : (P.info? ty).map (·.size) = some cells.size)
 (hold : old.size = cells.size) (h1 : cells.all (·.oneCell') = true)
 (h : wpList P ops Q rest (a.put o.dst undef) (w.alloc (.cells cells ty))) : wpList P ops Q (o :: rest) a (w.alloc (.cells old ty)) :=
 wpList_store_row hgd ty x y ho w.heap.size cells hx hy ty old (heap_alloc_last w _) hi hold h1 (by rw [World.setRow_alloc_new]; exact h)
/- One more element on a slice of the call's own: in place, or in a new block. -/
theorem one_cell_new {w : World} {s : Nat} (hs : w.heap.size = s) (v : Value) (t : TypeId) (j : Nat) (u : Value) (h : [v][j]? = some u) : (w.alloc (.cells #[v] t)).cell? ((⟨s, 0, none⟩ : Addr).add j) = some u := by
 subst hs
 match j, h with
 |
  0, h =>
  simp only [List.getElem?_cons_zero, Option.some.injEq] at h
  subst h
  rw [addr_add0]
  simp
 | j + 1, h => simp at h
theorem wpList_append1 {P : Program} (w : World) {ops : Array Oper} {rest : List Oper} {o : Oper} {a : Act} {Q : Exit → Act → World → Prop}
 (hg : o.guard = none) (s x : Operand) (t : TypeId) (hop : o.op = Op.call { callee := Callee.builtin Builtin.append, args := #[s, x], argTypes := #[t, t] })
 (base : Nat) (e : TypeId) (z : Value) (bytes : Nat) (h1 : P.underlying t = some (.slice e)) (hinfo : (P.info? e).map (fun i => (i.zero, i.size, i.bytes)) = some (some z, 1, bytes)) (hz1 : z.cells.size = 1)
 (v : Value) (n : Nat) (xs : List Value) (u : Value) (hs : a.eval s = v) (hu : u.oneCell' = true) (hx : a.eval x = .slice (some ⟨w.heap.size, 0, none⟩) 1 1)
 (hown : w.ownsRow base e 1 v n xs) (hbase : base ≤ w.heap.size) (b1 : n + 1 ≤ maxLen) (b2 : (n + 1) * bytes ≤ 140737488355328)
 (hK : ∀ g' cap' w', w'.ownsRow base e 1 (.slice (some ⟨g', 0, none⟩) (n + 1) cap') (n + 1) (xs ++ [u]) → (w.heap.size + 1 ≤ g' ∨ v.ownBlock = some g') → (w.alloc (.cells #[u] e)).grownBy w' (some g') → wpList P ops Q rest (a.put o.dst (.slice (some ⟨g', 0, none⟩) (n + 1) cap')) w') :
 wpList P ops Q (o :: rest) a (w.alloc (.cells #[u] e)) := by
 obtain ⟨i0, hi, hz0, hs1, hby⟩ := info_parts hinfo
 have hown' := hown.alloc (.cells #[u] e)
 have hsz : (w.alloc (.cells #[u] e)).heap.size = w.heap.size + 1 := by simp
 have hcells : ∀ j y, [u][j]? = some y → (w.alloc (.cells #[u] e)).cell? ((⟨w.heap.size, 0, none⟩ : Addr).add j) = some y := fun j y hj => one_cell_new rfl u e j y hj
 have hone : ∀ y ∈ [u], y.oneCell' = true := by intro y hy; simp at hy; subst hy; exact hu
 have grow : ∀ (ao : Option Addr) (cap : Nat), v = .slice ao n cap → (ao = none → n = 0 ∧ cap = 0) → (∀ b, ao = some b → ∀ j y, xs[j]? = some y → (w.alloc (.cells #[u] e)).cell? (b.add j) = some y) → xs.length = n * 1 → cap < n + 1 → wpList P ops Q (o :: rest) a (w.alloc (.cells #[u] e)) := by
  intro ao cap hv hno hol hlen hfull
  refine wpList_append_grows _ hg s x t hop e i0 z 1 bytes h1 hi hz0 hs1 hby hz1 (by omega) ao n cap xs (hs.trans hv) hno hlen hol ⟨w.heap.size, 0, none⟩ 1 1 [u] hx rfl hcells hone hfull b1 b2 ?_
  intro v' w' ho hgr
  obtain ⟨q1, q2⟩ := ho
  rcases q2 with ⟨_, q2⟩ | ⟨g', cap', cur, hv', hb, r⟩
  · omega
  ·
   subst hv'
   rw [hsz] at hb
   exact hK g' cap' w' ⟨q1, Or.inr ⟨g', cap', cur, rfl, by omega, r⟩⟩ (Or.inl hb) ⟨hgr.os, hgr.tape, hgr.output, hgr.size, fun k hk _ => hgr.block k hk (by simp)⟩
 obtain ⟨q1, q2⟩ := hown
 rcases q2 with ⟨hv, hn0⟩ | ⟨g, cap, cur, hv, hb, hh, hnc, hcm, hcs, htk⟩
 · exact grow none 0 (by rw [hv, hn0]) (fun _ => ⟨hn0, rfl⟩) (fun b hb => by simp at hb) q1 (by omega)
 ·
  by_cases hroom : n + 1 ≤ cap
  ·
   refine wpList_append_fits _ hg s x t hop base e i0 1 h1 hi hs1 g n cap xs (hs.trans hv) (by rw [← hv]; exact hown') ⟨w.heap.size, 0, none⟩ 1 1 [u] hx rfl hcells hone hroom ?_
   intro w' ho hgr
   exact hK g cap w' ho (Or.inr (by rw [hv]; rfl)) hgr
  ·
   refine grow (some ⟨g, 0, none⟩) cap hv (fun h => by simp at h) (fun b hb' j y hj => ?_) q1 (by omega)
   obtain rfl := Option.some.inj hb'
   exact hown'.cells (g := g) (by rw [hv]; rfl) j y hj
theorem wpList_append1s {P : Program} (w : World) {ops : Array Oper} {rest : List Oper} {o : Oper} {a : Act} {Q : Exit → Act → World → Prop}
 (hg : o.guard = none) (s x : Operand) (t : TypeId) (hop : o.op = Op.call { callee := Callee.builtin Builtin.append, args := #[s, x], argTypes := #[t, t] })
 (base : Nat) (e : TypeId) (z : Value) (bytes : Nat) (h1 : P.underlying t = some (.slice e)) (hinfo : (P.info? e).map (fun i => (i.zero, i.size, i.bytes)) = some (some z, 1, bytes)) (hz1 : z.cells.size = 1)
 (v : Value) (n : Nat) (xs : List Value) (u : Value) (hs : a.eval s = v) (hu : u.oneCell' = true) (sz : Nat) (hsz : w.heap.size = sz) (hx : a.eval x = .slice (some ⟨sz, 0, none⟩) 1 1)
 (hown : w.ownsRow base e 1 v n xs) (hbase : base ≤ w.heap.size) (b1 : n + 1 ≤ maxLen) (b2 : (n + 1) * bytes ≤ 140737488355328)
 (hK : ∀ g' cap' w', w'.ownsRow base e 1 (.slice (some ⟨g', 0, none⟩) (n + 1) cap') (n + 1) (xs ++ [u]) → (w.heap.size + 1 ≤ g' ∨ v.ownBlock = some g') → (w.alloc (.cells #[u] e)).grownBy w' (some g') → wpList P ops Q rest (a.put o.dst (.slice (some ⟨g', 0, none⟩) (n + 1) cap')) w') :
 wpList P ops Q (o :: rest) a (w.alloc (.cells #[u] e)) := by
 subst hsz
 exact wpList_append1 w hg s x t hop base e z bytes h1 hinfo hz1 v n xs u hs hu hx hown hbase b1 b2 hK
end Go.Proofs.YtecddphahiadlaaGreatDoor
