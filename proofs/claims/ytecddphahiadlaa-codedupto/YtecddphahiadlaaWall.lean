/- The contract of the statement's own codes, whole. -/
import Derived.Test.YtecddphahiadlaaWcodes
namespace Go.Proofs.Ytecddphahiadlaa
open Go.RowKit

theorem Try.size3 : (Try.prog.info? 3).map (·.size) = some 1 := by kernel_rfl

theorem addr_plain (b off j : Nat) : (⟨b, off, none⟩ : Addr).add j = ⟨b, off + j, none⟩ := by
  simp only [Addr.add]
  split
  · next h => rw [h, Nat.add_zero]
  · rfl

/-- What the list that is handed in holds. -/
def inN (z : Nat → Int) (n i : Nat) : Int := if i < n then z i else -71 - ((i : Int) - (n : Int))

structure In1 (w wr : World) (z : Nat → Int) (n t : Nat) : Prop where
  below : Below w.heap.size w wr
  row : wr.rowIs w.heap.size 3 (n + 8) (fun i => .int .i64 (if i < n + t then inN z n i else 0))

theorem in1_start {w w' : World} {z : Nat → Int} {n : Nat} (hb : Below w.heap.size w w') (hg : w'.heap[w.heap.size]? = some (.cells (splice (madeCells #[.int .i64 0] (n + 8)).toList 0 (valsOf (fun i => .int .i64 (z i)) n)).toArray 3 (0, 0))) : In1 w w' z n 0 := by
  have hl : (valsOf (fun i => Value.int .i64 (z i)) n).length = n := valsOf_length _ _
  have hm : (madeCells #[Value.int .i64 0] (n + 8)).toList = List.replicate (n + 8) (.int .i64 0) := toList_madeCells_one _ _
  refine ⟨hb, _, hg, ?_, fun i hi => ?_⟩
  · simp only [List.size_toArray]
    rw [length_splice _ _ _ (by rw [hl, hm]; simp), hm]
    simp
  · show _ = some (Value.int .i64 (if i < n + 0 then inN z n i else 0))
    rw [List.getElem?_toArray, splice, hm, hl, List.take_zero, List.nil_append, Nat.zero_add]
    by_cases h : i < n
    · rw [List.getElem?_append_left (by omega), valsOf_at _ h, if_pos (by omega)]
      simp [inN, h]
    · rw [List.getElem?_append_right (by omega), hl, if_neg (by omega), List.getElem?_drop, List.getElem?_replicate, if_pos (by omega)]

theorem in1_step {w wr : World} {z : Nat → Int} {n t : Nat} (h : In1 w wr z n t) : In1 w (wr.setCell ⟨w.heap.size, n + t, none⟩ (.int .i64 (-71 - (t : Int)))) z n (t + 1) := by
  refine ⟨h.below.setCell (Nat.le_refl _) _, (h.row.set (n + t) _).congr (fun i _ => ?_)⟩
  by_cases e : i = n + t
  · subst e
    rw [if_pos rfl, if_pos (by omega), inN, if_neg (by omega)]
    congr 1
    omega
  · rw [if_neg e]
    by_cases hlt : i < n + t
    · rw [if_pos hlt, if_pos (by omega)]
    · rw [if_neg hlt, if_neg (by omega)]

structure In2 (g : Nat) (w wr : World) (z : Nat → Int) (n k : Nat) : Prop where
  grown : w.grownBy wr (some g)
  row : wr.rowIs g 3 (n + 8) (fun i => .int .i64 (if i < k then 99 else inN z n i))

theorem in2_step {g : Nat} {w wr : World} {z : Nat → Int} {n k : Nat} (h : In2 g w wr z n k) : In2 g w (wr.setCell ⟨g, k, none⟩ (.int .i64 99)) z n (k + 1) := by
  refine ⟨⟨h.grown.os, h.grown.tape, h.grown.output, by simp [World.setCell]; exact h.grown.size, fun b hb hne => ?_⟩, (h.row.set k _).congr (fun i _ => ?_)⟩
  · rw [Below.heap_setCell _ _ _ _ (fun e => hne (by rw [e]))]
    exact h.grown.block b hb hne
  · by_cases e : i = k
    · subst e; rw [if_pos rfl, if_pos (by omega)]
    · rw [if_neg e]
      by_cases hlt : i < k
      · rw [if_pos hlt, if_pos (by omega)]
      · rw [if_neg hlt, if_neg (by omega)]

theorem in2_drewN {g : Nat} {w wr : World} {z : Nat → Int} {n k : Nat} (h : In2 g w wr z n k) (q : Nat) : In2 g w (wr.drewN q) z n k :=
  ⟨⟨h.grown.os, h.grown.tape, h.grown.output, h.grown.size, h.grown.block⟩, h.row.of_block rfl⟩

theorem in2_old {w w6 wx : World} {z : Nat → Int} {n k : Nat} (bel : Below w.heap.size w w6) (h : In2 w.heap.size w6 wx z n k) (b : Nat) (hb : b < w.heap.size) : wx.heap[b]? = w.heap[b]? :=
  (h.grown.block b (Nat.lt_of_lt_of_le hb bel.size) (by intro e; have := Option.some.inj e; omega)).trans (bel.block b hb)

theorem in2_raw {w w6 wx : World} {z : Nat → Int} {n k : Nat} {ao : Option Addr} (hz : RawAt w ao n z) (bel : Below w.heap.size w w6) (h : In2 w.heap.size w6 wx z n k) (hk : k < n) :
    ∃ b off, ao = some ⟨b, off, none⟩ ∧ wx.cell? ⟨b, off + k, none⟩ = some (.int .i64 (z k)) := by
  rcases hz with h0 | ⟨b, off, hao, hi⟩
  · omega
  · exact ⟨b, off, hao, (World.cell?_of_block (w := w) (a := ⟨b, off + k, none⟩) (in2_old bel h b hi.lt)).trans (hi.cell k hk)⟩

theorem in2_fresh {B gw N n b0 k : Nat} {z : Nat → Int} {w w6 wx : World} {col : Nat → Nat} {vl vm : Value} {L : Nat → Value} {mk : Nat → ByteArray} {v : Value} (inv : Inv B w col gw N N vl vm L mk) (hB : B ≤ w.heap.size)
    (bel : Below w.heap.size w w6) (rows : RowsOf b0 w6 v z n) (hb0 : w.heap.size < b0) (h : In2 w.heap.size w6 wx z n k) :
    ∃ col' n', Inv B wx col' gw N N vl vm L mk ∧ n' ≤ 288 ∧ Fresh B wx col' v n' := by
  have hs : w.heap.size ≤ wx.heap.size := Nat.le_trans bel.size h.grown.size
  rcases rows with ⟨_, hv⟩ | ⟨hf, g, hv, hg, hrow⟩
  · exact ⟨col, 0, inv.keep hs (fun b hb _ => in2_old bel h b hb), by omega, Or.inl ⟨hv, rfl⟩⟩
  · simp only [fitB, Bool.and_eq_true] at hf
    refine ⟨upd col g 0, n, (inv.recolor (Or.inr (by omega))).keep hs (fun b hb _ => in2_old bel h b hb), ((okB_iff z n).1 hf.1).1, Or.inr ⟨g, codeT z n, hv, by omega, upd_same _ _ _, ?_⟩⟩
    exact hrow.of_block (h.grown.block g hrow.lt (by intro e; have := Option.some.inj e; omega))

set_option maxHeartbeats 2000000 in
theorem wcodes_any (B gw N n cap : Nat) (ao : Option Addr) (z : Nat → Int) (w : World) (col : Nat → Nat) (vl vm : Value) (L : Nat → Value) (mk : Nat → ByteArray) (inv : Inv B w col gw N N vl vm L mk) (hB : B ≤ w.heap.size) (hN : N ≤ 8388608) (hn : n ≤ 1048576)
    (hz : RawAt w ao n z) :
    Calls Try.prog 6 #[.pointer (some ⟨gw, 0, none⟩), .slice ao n cap] w fun e w' => e = .returned (.bool true) ∧ Held B w' gw (N + 4) ∧ Below B w w' := by
  have hmk := run_make_row' (P := Try.prog) 30 3 (.int .i64 0) 8 Try.underlying30 Try.info3 rfl .i64 .i64 (n + 8) (by omega) (by omega)
  have ec : ((n + 8 : Nat) : Int) = (n : Int) + 8 := by omega
  rw [ec] at hmk
  clear ec
  have hgin : (w.alloc (.cells (madeCells #[.int .i64 0] (n + 8)) 3)).heap[w.heap.size]? = some (.cells (madeCells #[.int .i64 0] (n + 8)).toList.toArray 3 (0, 0)) := by
    rw [Array.toArray_toList]; exact heap_alloc_last w _
  have hb1 : Below w.heap.size w (w.alloc (.cells (madeCells #[.int .i64 0] (n + 8)) 3)) := (Below.refl _ _).alloc (Nat.le_refl _) _
  have hpos : 0 < (valsOf (fun i => Value.int .i64 (z i)) n).length → (some (⟨w.heap.size, 0, none⟩ : Addr)) = some ⟨w.heap.size, 0, none⟩ ∧ ∃ ad, ao = some ad ∧ ∀ j v, (valsOf (fun i => Value.int .i64 (z i)) n)[j]? = some v → (w.alloc (.cells (madeCells #[.int .i64 0] (n + 8)) 3)).cell? (ad.add j) = some v := by
    intro hp
    rw [valsOf_length] at hp
    refine ⟨rfl, ?_⟩
    rcases hz.later hb1 with h0 | ⟨b, off, hao, hi⟩
    · omega
    · refine ⟨_, hao, fun j v hj => ?_⟩
      have hjn : j < n := by
        have := (List.getElem?_eq_some_iff.1 hj).1
        rwa [valsOf_length] at this
      rw [valsOf_at _ hjn] at hj
      rw [addr_plain, hi.cell j hjn]
      exact hj
  go_enter Try.func6, Try.ntmps6
  go_wp2_with (first | (refine wpList_copy_splice rfl (.tmp 17) (.tmp 18) 30 30 rfl 3 Try.underlying30 Try.size3 (some ⟨w.heap.size, 0, none⟩) ao (n + 8) (n + 8) n cap rfl rfl w.heap.size 0 _ 3 hgin (valsOf (fun i => .int .i64 (z i)) n) ?k1 hpos ?k2 ?k3 w.heap.size w hb1 (Nat.le_refl _) ?_) | fail)
  case k1 => exact valsOf_length _ _
  case k2 => rw [valsOf_length, size_madeCells]; omega
  case k3 =>
    intro v hv
    simp only [valsOf, List.mem_map] at hv
    obtain ⟨i, _, rfl⟩ := hv
    rfl
  · intro w2 HG2 hb2
    have R0 := in1_start hb2 HG2.out
    clear HG2 hb2 hpos hgin hb1 hmk
    go_wp2_with fail
    go_loopw [6] (fun i wr => ∃ t : Nat, t ≤ 8 ∧ i = .int .i64 t ∧ In1 w wr z n t) (fun i _ => 8 - (intOf i).toNat)
    case atStart => exact ⟨0, by omega, rfl, R0⟩
    case round =>
      obtain ⟨t, ht, rfl, hrel⟩ := hrel
      clear R0
      by_cases hlt : t < 8
      · have cc := hrel.row.cell (i := n + t) (by omega)
        have cf := hrel.row.frozen (n + t)
        have R := in1_step hrel
        go_wp2
        go_roundw
        case rel => exact ⟨t + 1, by omega, by go_num, R⟩
        case measure => simp [intOf]; omega
      · obtain rfl : t = 8 := by omega
        have hrow : wr.rowIs w.heap.size 3 (n + 8) (fun i => .int .i64 (inN z n i)) := hrel.row.congr (fun i hi => by rw [if_pos hi])
        have bel := hrel.below
        have ints : IntsAt wr w.heap.size 0 n z := ⟨fun i hi => by rw [Nat.zero_add, hrow.cell (by omega), inN, if_pos hi], hrow.lt⟩
        clear hrel
        go_wp2_with fail
        refine (codes_gen w.heap.size 0 n (n + 8) z _ ints (by omega)).mono ?_
        rintro e w4 ⟨v1, rfl, rows1, hb4⟩
        have bel4 : Below w.heap.size w w4 := bel.trans (hb4.mono bel.size)
        have hrow4 := hrow.of_block (hb4.block _ hrow.lt)
        have raw4 := hz.later bel4
        have hg4 : w.heap.size < wr.heap.size := hrow.lt
        clear hrow bel ints hb4
        go_wp2_with fail
        refine (rCodes_gen ao n cap z _ raw4 (by omega)).mono ?_
        rintro e w5 ⟨v2, rfl, rows2, hb5⟩
        have bel5 : Below w.heap.size w w5 := bel4.trans (hb5.mono bel4.size)
        have hrow5 := hrow4.of_block (hb5.block _ hrow4.lt)
        have rows1' := rows1.later (fun g _ hg => hb5.block g hg)
        clear hrow4 bel4 hb5 rows1 raw4
        go_wp2_with fail
        refine (same_gen rows1' rows2).mono ?_
        rintro e w6 ⟨rfl, q, rfl⟩
        have bel6 : Below w.heap.size w (w5.drewN q) := below_drewN bel5 q
        have hrow6 := hrow5.of_block (w' := w5.drewN q) rfl
        have rows6 := rows1'.later (w' := w5.drewN q) (fun g _ _ => rfl)
        generalize w5.drewN q = w6 at bel6 hrow6 rows6 ⊢
        clear rows1' rows2 hrow5 bel5
        go_wp2_with fail
        refine (num_any _ _).mono ?_
        rintro e w' ⟨rfl, rfl⟩
        go_wp2_with fail
        go_loopw [11, 12] (fun ok i wx => ∃ k : Nat, k ≤ n + 8 ∧ ok = .bool true ∧ i = .int .i64 k ∧ In2 w.heap.size w' wx z n k) (fun _ i _ => n + 8 - (intOf i).toNat)
        case atStart => exact ⟨0, by omega, by simp, rfl, ⟨World.grownBy.refl _ _, hrow6.congr (fun i _ => by simp)⟩⟩
        case round =>
          obtain ⟨k, hk, rfl, rfl, hrel⟩ := hrel
          by_cases hlk : k < n + 8
          · have i1 : (k : Int) < (n : Int) + 8 := by omega
            have cf := hrel.row.frozen k
            have c1 := hrel.row.cell hlk
            have R := fun q => in2_step (in2_drewN hrel q)
            rw [if_neg (by omega)] at c1
            by_cases hkn : k < n
            · have i2 : (k : Int) < (n : Int) := by omega
              rw [inN, if_pos hkn] at c1
              obtain ⟨b, off, hao, c2⟩ := in2_raw hz bel6 hrel hkn
              rw [hao]
              go_wp2
              go_big_quiet (fail)
              go_wp2
              go_roundw
              case rel => exact ⟨k + 1, by omega, rfl, by go_num, R _⟩
              case measure => simp [intOf]; omega
            · have hdk : decide ((k : Int) < (n : Int)) = false := by rw [decide_eq_false_iff_not]; omega
              rw [inN, if_neg hkn] at c1
              go_wp2
              go_roundw
              case rel => exact ⟨k + 1, by omega, rfl, by go_num, in2_step hrel⟩
              case measure => simp [intOf]; omega
          · obtain rfl : k = n + 8 := by omega
            obtain ⟨col', n', inv', hn', fr⟩ := in2_fresh inv hB bel6 rows6 hg4 hrel
            have hBx : B ≤ wr.heap.size := Nat.le_trans (Nat.le_trans hB bel6.size) hrel.grown.size
            have belx : Below w.heap.size w wr := bel6.grown hrel.grown bel6.size (fun k e => by have h : w.heap.size = k := Option.some.inj e; omega)
            go_wp2_with fail
            refine (keep_any B gw N n' _ col' vl vm L mk v1 inv' hBx hN hn' fr).mono ?_
            rintro e w8 ⟨rfl, held, bel8⟩
            have bel9 : Below B w w8 := (belx.mono hB).trans bel8
            go_wp2
            go_ret
            exact ⟨rfl, held, bel9⟩

end Go.Proofs.Ytecddphahiadlaa
