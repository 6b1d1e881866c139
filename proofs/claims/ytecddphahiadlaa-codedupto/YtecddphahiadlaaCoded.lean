/- The walk of Coded. -/
import Derived.Test.YtecddphahiadlaaWall
namespace Go.Proofs.Ytecddphahiadlaa
open Go.RowKit

def nils8 : Array Value := #[.slice none 0 0, .slice none 0 0, .slice none 0 0, .slice none 0 0, .slice none 0 0, .slice none 0 0, .slice none 0 0, .slice none 0 0]

theorem nils8_at : ∀ i, i < 8 → nils8[i]? = some (.slice none 0 0)
  | 0, _ => rfl
  | 1, _ => rfl
  | 2, _ => rfl
  | 3, _ => rfl
  | 4, _ => rfl
  | 5, _ => rfl
  | 6, _ => rfl
  | 7, _ => rfl
  | n + 8, h => absurd h (by omega)

theorem inv_start (w : World) : Inv w.heap.size (w.alloc (.cells nils8 32)) (fun b => if b = w.heap.size then 1 else 0) w.heap.size 0 0 (.slice none 0 0) (.slice none 0 0) (fun _ => .slice none 0 0) (fun _ => .empty) := by
  refine ⟨Nat.le_refl _, by simp, ?_, World.ownsRow_nil _ _ _ _, World.ownsRow_nil _ _ _ _, fun g hg => by simp [Value.ownBlock] at hg, fun g hg => by simp [Value.ownBlock] at hg, fun i hi => absurd hi (by omega)⟩
  have := World.rowIs_alloc w nils8 32 (fun _ => .slice none 0 0) (fun i hi => nils8_at i hi)
  exact this.congr (fun i _ => by simp)

def four (i : Nat) : Int := if i = 0 then 2 else if i = 1 then 1 else 3

theorem four_at (w : World) : IntsAt (w.alloc (.cells #[.int .i64 2, .int .i64 1, .int .i64 3, .int .i64 3] 3)) w.heap.size 0 4 four := by
  refine ⟨fun i hi => ?_, by simp⟩
  match i, hi with
  | 0, _ => simp [four]
  | 1, _ => simp [four]
  | 2, _ => simp [four]
  | 3, _ => simp [four]

/-- The lists that came in. -/
structure ListsAt (w : World) (ao : Option Addr) (len : Nat) (A : Nat → Option Addr) (n cp : Nat → Nat) (Z : Nat → Nat → Int) : Prop where
  at' : ∀ i, i < len → ∃ b off, ao = some ⟨b, off, none⟩ ∧ b < w.heap.size ∧ w.cell? ⟨b, off + i, none⟩ = some (.slice (A i) (n i) (cp i))
  raw : ∀ i, i < len → RawAt w (A i) (n i) (Z i)
  few : ∀ i, i < len → n i ≤ 1048576

theorem Held.drewN {B : Nat} {w : World} {gw N : Nat} (h : Held B w gw N) (q : Nat) : Held B (w.drewN q) gw N := by
  obtain ⟨col, vl, vm, L, mk, inv⟩ := h
  exact ⟨col, vl, vm, L, mk, inv.keep (Nat.le_refl _) (fun _ _ _ => rfl)⟩

/-- The state of the loop. -/
structure CS (w wr : World) (N : Nat) : Prop where
  held : Held w.heap.size wr w.heap.size N
  bel : Below w.heap.size w wr

set_option maxHeartbeats 1000000 in
theorem coded_any (ao : Option Addr) (len cap : Nat) (w : World) (A : Nat → Option Addr) (n cp : Nat → Nat) (Z : Nat → Nat → Int) (hl : ListsAt w ao len A n cp Z) (hlen : len ≤ 1048576) :
    Calls Try.prog 3 #[.slice ao len cap] w fun e w' => e = .returned (.bool true) ∧ Below w.heap.size w w' := by
  have inv0 := (inv_start w).later (w' := (w.alloc (.cells nils8 32)).alloc (.cells #[.int .i64 2, .int .i64 1, .int .i64 3, .int .i64 3] 3)) ((Below.refl _ _).alloc (Nat.le_refl _) _)
  have hz0 : RawAt ((w.alloc (.cells nils8 32)).alloc (.cells #[.int .i64 2, .int .i64 1, .int .i64 3, .int .i64 3] 3)) (some ⟨w.heap.size + 1, 0, none⟩) 4 four := by
    have := four_at (w.alloc (.cells nils8 32))
    rw [show (w.alloc (.cells nils8 32)).heap.size = w.heap.size + 1 from by simp] at this
    exact Or.inr ⟨_, _, rfl, this⟩
  have bel0 : Below w.heap.size w ((w.alloc (.cells nils8 32)).alloc (.cells #[.int .i64 2, .int .i64 1, .int .i64 3, .int .i64 3] 3)) := ((Below.refl _ _).alloc (Nat.le_refl _) _).alloc (by simp) _
  go_enter Try.func3, Try.ntmps3
  go_wp2_with fail
  refine (wcodes_any w.heap.size w.heap.size 0 4 4 _ four _ _ _ _ _ _ inv0 bel0.size (by omega) (by omega) hz0).mono ?_
  rintro e w1 ⟨rfl, held1, bel1⟩
  have R0 : CS w w1 (4 * (0 + 1)) := ⟨held1, bel0.trans bel1⟩
  clear held1 bel1 bel0 hz0 inv0
  go_wp2_with fail
  go_loopw [4, 5, 6, 7] (fun a i _ _ wr => ∃ k : Nat, k ≤ len ∧ a = .bool true ∧ i = .int .i64 k ∧ CS w wr (4 * (k + 1))) (fun _ i _ _ _ => len - (intOf i).toNat)
  case atStart => exact ⟨0, by omega, rfl, rfl, R0⟩
  case round =>
    obtain ⟨k, hk, rfl, rfl, hrel⟩ := hrel
    clear R0
    by_cases hlt : k < len
    · obtain ⟨b, off, hao, hb, hc⟩ := hl.at' k hlt
      have hc' := (hrel.bel.cell (p := ⟨b, off + k, none⟩) hb).trans hc
      have raw := (hl.raw k hlt).later hrel.bel
      have few := hl.few k hlt
      obtain ⟨col, vl, vm, L, mk, inv⟩ := hrel.held
      rw [hao]
      go_wp2_with fail
      refine (wcodes_any w.heap.size w.heap.size (4 * (k + 1)) (n k) (cp k) (A k) (Z k) _ col vl vm L mk inv hrel.bel.size (by omega) few raw).mono ?_
      rintro e w2 ⟨rfl, held2, bel2⟩
      have bel2' : Below w.heap.size w w2 := hrel.bel.trans bel2
      clear hrel inv raw hc hc' bel2
      obtain ⟨col, vl, vm, L, mk, inv⟩ := held2
      go_wp2_with fail
      refine (kept_any w.heap.size w.heap.size (4 * (k + 1) + 4) _ col vl vm L mk inv (by omega)).mono ?_
      rintro e w3 ⟨rfl, q, rfl⟩
      have R : CS w (w2.drewN q) (4 * (k + 1 + 1)) := ⟨Held.drewN ⟨col, vl, vm, L, mk, inv⟩ q, below_drewN bel2' q⟩
      clear inv bel2'
      go_wp2
      go_roundw
      case rel => exact ⟨k + 1, by omega, rfl, by go_num, R⟩
      case measure => simp [intOf]; omega
    · obtain rfl : k = len := by omega
      go_wp2
      go_ret
      exact ⟨rfl, hrel.bel⟩

end Go.Proofs.Ytecddphahiadlaa
