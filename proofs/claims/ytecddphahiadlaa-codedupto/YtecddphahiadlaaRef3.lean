/- The contract of the document's Codes. -/
import Derived.Test.YtecddphahiadlaaRef2
namespace Go.Proofs.Ytecddphahiadlaa
open Go.RowKit

/-- What the reference's Codes answers, where the program's does. -/
def RCodesPost (w : World) (z : Nat → Int) (n : Nat) (e : Ending) (w' : World) : Prop :=
  (fitB z n = false ∧ e = .returned (.tuple #[.slice none 0 0, .int .i64 1]) ∧ w' = w) ∨
  (fitB z n = true ∧ e = .returned (.tuple #[.slice (some ⟨w.heap.size, 0, none⟩) n n, .int .i64 0]) ∧ w'.rowIs w.heap.size 9 n (fun i => .string (codeT z n i)) ∧ Below w.heap.size w w')

set_option maxHeartbeats 400000 in
theorem rCodes_any (b off n cap : Nat) (z : Nat → Int) (w : World) (hz : IntsAt w b off n z) (hn : n ≤ 9223372036854775807) :
    Calls Try.prog 15 #[.slice (some ⟨b, off, none⟩) n cap] w (RCodesPost w z n) := by
  by_cases hm : n ≤ 288
  · go_enter Try.func15, Try.ntmps15
    go_wp2
    go_loop [4] (fun i => ∃ k : Nat, k ≤ n ∧ i = .int .i64 k ∧ Hid (∀ i, i < k → 0 ≤ z i ∧ z i ≤ 15)) (fun i => n - (intOf i).toNat)
    case atStart => exact ⟨0, by omega, rfl, fun i hi => absurd hi (by omega)⟩
    case round =>
      obtain ⟨k, hk, rfl, HR⟩ := hrel
      by_cases hlt : k < n
      · have hc := hz.cell k hlt
        by_cases h0 : z k < 0
        · have HB : Hid (fitB z n = false) := by show fitB z n = false; simp [fitB, okB_out hlt (Or.inl h0)]
          go_wp2
          go_ret2
          exact Or.inl ⟨HB.out, rfl, rfl⟩
        · by_cases h1 : 15 < z k
          · have HB : Hid (fitB z n = false) := by show fitB z n = false; simp [fitB, okB_out hlt (Or.inr h1)]
            go_wp2
            go_ret2
            exact Or.inl ⟨HB.out, rfl, rfl⟩
          · have HR' : Hid (∀ i, i < k + 1 → 0 ≤ z i ∧ z i ≤ 15) := by
              intro i hi
              by_cases e : i = k
              · subst e; omega
              · exact HR.out i (by omega)
            go_wp2
            go_round
            case rel => exact ⟨k + 1, by omega, by go_num, HR'⟩
            case measure => simp [intOf]; omega
      · obtain rfl : k = n := by omega
        have HO : Hid (okB z k = true) := okB_yes hm HR.out
        have HF : Hid (fitB z k = decide (ks0 z k = 32768)) := fitB_of_ok HO.out HR.out
        have hle := ks0_le z k
        go_wp2_with fail
        refine (rleft_any b off k cap z _ hz (by omega) HR.out).mono ?_
        rintro e w' ⟨rfl, rfl⟩
        obtain ⟨s, hs⟩ : ∃ s, s = ks0 z k := ⟨_, rfl⟩
        rw [← hs] at hle ⊢
        have HS : Hid (s = ks0 z k) := hs
        clear hs
        by_cases hf : s = 32768
        · subst hf
          have hkr : kr (cntN z k) 15 ≤ 32768 := by rw [kr_ks0 z k HR.out, ← HS.out]; exact Nat.le_refl _
          go_wp2_with fail
          refine (rcodes_any b off k cap z _ hz hm HR.out hkr).mono ?_
          rintro e w2 ⟨rfl, hrow, hb⟩
          go_wp2
          go_ret2
          exact Or.inr ⟨by rw [HF.out, ← HS.out]; rfl, rfl, hrow, hb⟩
        · have hne : (32768 - (s : Int) != 0) = true := by rw [bne_iff_ne]; omega
          go_wp2
          go_ret2
          exact Or.inl ⟨by rw [HF.out, ← HS.out]; simp [hf], rfl, rfl⟩
  · have HB : Hid (fitB z n = false) := by show fitB z n = false; simp [fitB, okB_many (show 288 < n by omega)]
    go_enter Try.func15, Try.ntmps15
    go_wp2
    go_ret2
    exact Or.inl ⟨HB.out, rfl, rfl⟩

set_option maxHeartbeats 400000 in
theorem rCodes_nil (ao : Option Addr) (cap : Nat) (w : World) : Calls Try.prog 15 #[.slice ao 0 cap] w fun e w' => e = .returned (.tuple #[.slice none 0 0, .int .i64 1]) ∧ w' = w := by
  go_enter Try.func15, Try.ntmps15
  go_wp2
  go_loop [4] (fun i => i = .int .i64 0) (fun i => (intOf i).toNat)
  case atStart => exact rfl
  case round =>
    obtain rfl := hrel
    go_wp2_with fail
    refine (rleft_nil ao cap _).mono ?_
    rintro e w' ⟨rfl, rfl⟩
    go_wp2
    go_ret2
    exact ⟨rfl, rfl⟩

end Go.Proofs.Ytecddphahiadlaa
