/- The lengths of kind 1, as the program lists them. -/
import Derived.Test.YtecddphahiadlaaGreatDoorCGCat
import Derived.Test.YtecddphahiadlaaGreatDoorCFixed
namespace Go.Proofs.YtecddphahiadlaaGreatDoor
open Go.RowKit

theorem fixZ_one (i : Nat) : 1 ≤ fixZ i ∧ fixZ i ≤ 15 := by
  unfold fixZ
  split
  · omega
  · split <;> omega
theorem fix_fit : fitB fixZ 288 = true := by
  rw [fit_of_ks (by omega) (fun i _ => fixZ_one i)]
  decide +kernel
theorem fiv_fit : fitB fivZ 32 = true := by
  rw [fit_of_ks (by omega) (fun i _ => by unfold fivZ; omega)]
  decide +kernel

def fourN (i : Nat) : Nat := if i = 0 then 144 else if i = 1 then 112 else if i = 2 then 24 else 8
theorem four_off : offN fourN 0 = 0 ∧ offN fourN 1 = 144 ∧ offN fourN 2 = 256 ∧ offN fourN 3 = 280 ∧ offN fourN 4 = 288 := by decide

/-- The four lists, one behind the other, are the lengths of kind 1. -/
theorem four_ints {w : World} {g0 g1 g2 g3 : Nat} (h0 : IntsAt w g0 0 144 (fun _ => 8)) (h1 : IntsAt w g1 0 112 (fun _ => 9)) (h2 : IntsAt w g2 0 24 (fun _ => 7)) (h3 : IntsAt w g3 0 8 (fun _ => 8)) :
    ∀ i, i < 4 → IntsAt w (if i = 0 then g0 else if i = 1 then g1 else if i = 2 then g2 else g3) 0 (fourN i) (fun j => fixZ (offN fourN i + j)) := by
  obtain ⟨o0, o1, o2, o3, _⟩ := four_off
  intro i hi
  rcases (by omega : i = 0 ∨ i = 1 ∨ i = 2 ∨ i = 3) with e | e | e | e
  · subst e
    refine ⟨fun j hj => ?_, h0.lt⟩
    have : j < 144 := hj
    rw [o0]
    have := h0.cell j this
    show w.cell? ⟨g0, 0 + j, none⟩ = some (.int .i64 (fixZ (0 + j)))
    rw [this]
    unfold fixZ
    rw [if_neg (by omega), if_neg (by omega)]
  · subst e
    refine ⟨fun j hj => ?_, h1.lt⟩
    have : j < 112 := hj
    rw [o1]
    have := h1.cell j this
    show w.cell? ⟨g1, 0 + j, none⟩ = some (.int .i64 (fixZ (144 + j)))
    rw [this]
    unfold fixZ
    rw [if_pos (by omega)]
  · subst e
    refine ⟨fun j hj => ?_, h2.lt⟩
    have : j < 24 := hj
    rw [o2]
    have := h2.cell j this
    show w.cell? ⟨g2, 0 + j, none⟩ = some (.int .i64 (fixZ (256 + j)))
    rw [this]
    unfold fixZ
    rw [if_neg (by omega), if_pos (by omega)]
  · subst e
    refine ⟨fun j hj => ?_, h3.lt⟩
    have : j < 8 := hj
    rw [o3]
    have := h3.cell j this
    show w.cell? ⟨g3, 0 + j, none⟩ = some (.int .i64 (fixZ (280 + j)))
    rw [this]
    unfold fixZ
    rw [if_neg (by omega), if_neg (by omega)]


theorem OwnI.weaken {w : World} {B B' g cap n : Nat} {z : Nat → Int} (h : OwnI w B g cap n z) (hB : B' ≤ B) : OwnI w B' g cap n z := by
  obtain ⟨q1, q2⟩ := h.own
  refine ⟨q1, ?_⟩
  rcases q2 with ⟨q2, _⟩ | ⟨g', cap', cur, hv, hbb, r⟩
  · exact absurd q2 (by simp)
  · exact Or.inr ⟨g', cap', cur, hv, Nat.le_trans hB hbb, r⟩

def FixLPost (w : World) (n : Nat) (z : Nat → Int) (e : Ending) (w' : World) : Prop :=
  ∃ g cap, e = .returned (.slice (some ⟨g, 0, none⟩) n cap) ∧ OwnI w' w.heap.size g cap n z ∧ Below w.heap.size w w'

set_option maxHeartbeats 400000 in
theorem fixedDistances_any (w : World) : Calls Tryz.prog 74 #[] w (FixLPost w 32 fivZ) := by
  go_enter Tryz.func74, Tryz.ntmps74
  go_wp2_with fail
  refine (times_any 32 5 _ (by omega) (by omega)).mono ?_
  rintro e w2 ⟨g, rfl, ho, hb⟩
  go_wp2
  go_ret
  exact ⟨g, 32, rfl, ho, hb⟩

set_option maxRecDepth 4000 in
set_option maxHeartbeats 1000000 in
theorem fixedSymbols_any (w : World) : Calls Tryz.prog 73 #[] w (FixLPost w 288 fixZ) := by
  go_enter Tryz.func73, Tryz.ntmps73
  go_wp2_with fail
  refine (times_any 144 8 _ (by omega) (by omega)).mono ?_
  rintro e w2 ⟨ga, rfl, oga, bw2⟩
  have Bw2 : Below w.heap.size w w2 := bw2
  have iga := oga.ints
  go_wp2_with fail
  refine (times_any 112 9 _ (by omega) (by omega)).mono ?_
  rintro e w3 ⟨gb, rfl, ogb, bw3⟩
  have Bw3 : Below w.heap.size w w3 := Bw2.trans (bw3.mono Bw2.size)
  have igb := ogb.ints
  replace iga := iga.later bw3
  go_wp2_with fail
  refine (times_any 24 7 _ (by omega) (by omega)).mono ?_
  rintro e w4 ⟨gc, rfl, ogc, bw4⟩
  have Bw4 : Below w.heap.size w w4 := Bw3.trans (bw4.mono Bw3.size)
  have igc := ogc.ints
  replace iga := iga.later bw4
  replace igb := igb.later bw4
  go_wp2_with fail
  refine (times_any 8 8 _ (by omega) (by omega)).mono ?_
  rintro e w5 ⟨gd, rfl, ogd, bw5⟩
  have Bw5 : Below w.heap.size w w5 := Bw4.trans (bw5.mono Bw4.size)
  have igd := ogd.ints
  replace iga := iga.later bw5
  replace igb := igb.later bw5
  replace igc := igc.later bw5
  have hb6 : Below w5.heap.size w5 (w5.alloc (.cells #[.slice (some ⟨ga, 0, none⟩) 144 144, .slice (some ⟨gb, 0, none⟩) 112 112, .slice (some ⟨gc, 0, none⟩) 24 24, .slice (some ⟨gd, 0, none⟩) 8 8] 61)) := (Below.refl _ _).alloc (Nat.le_refl _) _
  have B6 := Bw5.trans (hb6.mono Bw5.size)
  have r6 := World.rowIs_alloc w5 #[.slice (some ⟨ga, 0, none⟩) 144 144, .slice (some ⟨gb, 0, none⟩) 112 112, .slice (some ⟨gc, 0, none⟩) 24 24, .slice (some ⟨gd, 0, none⟩) 8 8] 61 (fun i => .slice (some ⟨if i = 0 then ga else if i = 1 then gb else if i = 2 then gc else gd, 0, none⟩) (fourN i) (fourN i)) (fun i hi => by match i, hi with | 0, _ => rfl | 1, _ => rfl | 2, _ => rfl | 3, _ => rfl)
  have i6 := four_ints (iga.later hb6) (igb.later hb6) (igc.later hb6) (igd.later hb6)
  clear iga igb igc igd oga ogb ogc ogd bw2 bw3 bw4 bw5 Bw2 Bw3 Bw4 Bw5 hb6
  go_wp2_with fail
  refine (concat_any w5.heap.size 4 4 fourN _ fourN fixZ _ r6 (by omega) i6 (by rw [four_off.2.2.2.2]; omega) (by rw [four_off.2.2.2.2]; omega)).mono ?_
  rintro e w7 ⟨gq, cq, rfl, oq, b7⟩
  rw [four_off.2.2.2.2] at oq ⊢
  have B7 := B6.trans (b7.mono B6.size)
  have oq2 := oq.weaken B6.size
  clear oq b7 r6 i6 B6
  go_wp2
  go_ret
  exact ⟨gq, cq, rfl, oq2, B7⟩

end Go.Proofs.YtecddphahiadlaaGreatDoor
