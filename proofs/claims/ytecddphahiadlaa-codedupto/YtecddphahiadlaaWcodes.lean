/- The contract of the statement's own codes: the program's Codes and the document's, held against each other. -/
import Derived.Test.YtecddphahiadlaaKept
import Derived.Test.YtecddphahiadlaaRef3
import Derived.Test.YtecddphahiadlaaCodes
import Derived.Laws.CopyOwn
namespace Go.Proofs.Ytecddphahiadlaa
open Go.RowKit

/-- The codes of some lengths, as a list that lies from block b0 on. -/
def RowsOf (b0 : Nat) (w : World) (v : Value) (z : Nat → Int) (n : Nat) : Prop :=
  (fitB z n = false ∧ v = .slice none 0 0) ∨ (fitB z n = true ∧ ∃ g, v = .slice (some ⟨g, 0, none⟩) n n ∧ b0 ≤ g ∧ w.rowIs g 9 n (fun i => .string (codeT z n i)))

def errOf (z : Nat → Int) (n : Nat) : Int := if fitB z n = true then 0 else 1

def CPost (w : World) (z : Nat → Int) (n : Nat) (e : Ending) (w' : World) : Prop :=
  ∃ v, e = .returned (.tuple #[v, .int .i64 (errOf z n)]) ∧ RowsOf w.heap.size w' v z n ∧ Below w.heap.size w w'

theorem codes_gen (b off n cap : Nat) (z : Nat → Int) (w : World) (hz : IntsAt w b off n z) (hn : n ≤ 9223372036854775807) :
    Calls Try.prog 9 #[.slice (some ⟨b, off, none⟩) n cap] w (CPost w z n) := by
  refine (codes_any b off n cap z w hz hn).mono ?_
  rintro e w' (⟨hf, rfl, hb⟩ | ⟨hf, g, rfl, hg, hrow, hb⟩)
  · exact ⟨_, by rw [errOf, hf]; rfl, Or.inl ⟨hf, rfl⟩, hb⟩
  · exact ⟨_, by rw [errOf, hf]; rfl, Or.inr ⟨hf, g, rfl, hg, hrow⟩, hb⟩

/-- A list of lengths that came in: nothing in it, or a row. -/
def RawAt (w : World) (ao : Option Addr) (n : Nat) (z : Nat → Int) : Prop :=
  n = 0 ∨ ∃ b off, ao = some ⟨b, off, none⟩ ∧ IntsAt w b off n z

theorem RawAt.later {w w' : World} {ao : Option Addr} {n : Nat} {z : Nat → Int} (h : RawAt w ao n z) (hb : Below w.heap.size w w') : RawAt w' ao n z := by
  rcases h with h | ⟨b, off, h, hz⟩
  · exact Or.inl h
  · exact Or.inr ⟨b, off, h, hz.later hb⟩

theorem rCodes_gen (ao : Option Addr) (n cap : Nat) (z : Nat → Int) (w : World) (hz : RawAt w ao n z) (hn : n ≤ 9223372036854775807) :
    Calls Try.prog 15 #[.slice ao n cap] w (CPost w z n) := by
  rcases hz with rfl | ⟨b, off, rfl, hz⟩
  · refine (rCodes_nil ao cap w).mono ?_
    rintro e w' ⟨rfl, rfl⟩
    have hf := fitB_zero z
    exact ⟨_, by rw [errOf, hf]; rfl, Or.inl ⟨hf, rfl⟩, Below.refl _ _⟩
  · refine (rCodes_any b off n cap z w hz hn).mono ?_
    rintro e w' (⟨hf, rfl, rfl⟩ | ⟨hf, rfl, hrow, hb⟩)
    · exact ⟨_, by rw [errOf, hf]; rfl, Or.inl ⟨hf, rfl⟩, Below.refl _ _⟩
    · exact ⟨_, by rw [errOf, hf]; rfl, Or.inr ⟨hf, _, rfl, Nat.le_refl _, hrow⟩, hb⟩

theorem RowsOf.later {b0 : Nat} {w w' : World} {v : Value} {z : Nat → Int} {n : Nat} (h : RowsOf b0 w v z n) (hb : ∀ g, b0 ≤ g → g < w.heap.size → w'.heap[g]? = w.heap[g]?) : RowsOf b0 w' v z n := by
  rcases h with h | ⟨hf, g, hv, hg, hrow⟩
  · exact Or.inl h
  · exact Or.inr ⟨hf, g, hv, hg, hrow.of_block (hb g hg hrow.lt)⟩

set_option maxHeartbeats 400000 in
theorem same_nil (w : World) : Calls Try.prog 16 #[.slice none 0 0, .slice none 0 0] w fun e w' => e = .returned (.bool true) ∧ ∃ q, w' = w.drewN q := by
  go_enter Try.func16, Try.ntmps16
  go_wp2
  go_loop [5] (fun i => i = .int .i64 0) (fun i => (intOf i).toNat)
  case atStart => exact rfl
  case round =>
    obtain rfl := hrel
    go_wp2
    go_ret
    exact ⟨rfl, 0, rfl⟩

set_option maxHeartbeats 400000 in
theorem same_some (g1 g2 n : Nat) (f : Nat → ByteArray) (w : World) (hn : n ≤ 288) (r1 : w.rowIs g1 9 n (fun i => .string (f i))) (r2 : w.rowIs g2 9 n (fun i => .string (f i))) :
    Calls Try.prog 16 #[.slice (some ⟨g1, 0, none⟩) n n, .slice (some ⟨g2, 0, none⟩) n n] w fun e w' => e = .returned (.bool true) ∧ ∃ q, w' = w.drewN q := by
  have hnn : ((n : Int) != n) = false := by simp
  go_enter Try.func16, Try.ntmps16
  go_wp2
  go_loopw [5] (fun i wr => ∃ k : Nat, k ≤ n ∧ i = .int .i64 k ∧ ∃ q, wr = w.drewN q) (fun i _ => n - (intOf i).toNat)
  case atStart => exact ⟨0, by omega, rfl, 0, rfl⟩
  case round =>
    obtain ⟨k, hk, rfl, q, rfl⟩ := hrel
    by_cases hlt : k < n
    · have k1 := r1.cell hlt
      have k2 := r2.cell hlt
      have hki : (k : Int) < (n : Int) := by omega
      go_wp2
      go_big_quiet (fail)
      go_wp2
      go_roundw
      case rel => exact ⟨k + 1, by omega, by go_num, _, rfl⟩
      case measure => simp [intOf]; omega
    · obtain rfl : k = n := by omega
      go_wp2
      go_ret
      exact ⟨rfl, q, rfl⟩

theorem same_gen {b1 b2 : Nat} {w : World} {v1 v2 : Value} {z : Nat → Int} {n : Nat} (h1 : RowsOf b1 w v1 z n) (h2 : RowsOf b2 w v2 z n) :
    Calls Try.prog 16 #[v1, v2] w fun e w' => e = .returned (.bool true) ∧ ∃ q, w' = w.drewN q := by
  rcases h1 with ⟨hf, rfl⟩ | ⟨hf, g1, rfl, _, r1⟩
  · rcases h2 with ⟨_, rfl⟩ | ⟨hf2, _⟩
    · exact same_nil w
    · rw [hf] at hf2; exact absurd hf2 (by simp)
  · rcases h2 with ⟨hf2, _⟩ | ⟨_, g2, rfl, _, r2⟩
    · rw [hf] at hf2; exact absurd hf2 (by simp)
    · have hf' := hf
      simp only [fitB, Bool.and_eq_true] at hf'
      exact same_some g1 g2 n _ w ((okB_iff z n).1 hf'.1).1 r1 r2

end Go.Proofs.Ytecddphahiadlaa
