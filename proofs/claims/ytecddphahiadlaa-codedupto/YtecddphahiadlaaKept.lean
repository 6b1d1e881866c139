/- The contracts of kept, same, num. -/
import Derived.Test.YtecddphahiadlaaKeep
import Derived.BigQuiet
import Derived.Deep.QuietTactic
namespace Go.Proofs.Ytecddphahiadlaa
open Go.RowKit

theorem own_some {w : World} {base : Nat} {e : TypeId} {v : Value} {n : Nat} {xs : List Value} (h : w.ownsRow base e 1 v n xs) (hn : 0 < n) : ∃ g cap, v = .slice (some ⟨g, 0, none⟩) n cap ∧ ∀ j, j < n → w.cell? ⟨g, j, none⟩ = xs[j]? := by
  have hc := h
  obtain ⟨_, q⟩ := hc
  rcases q with ⟨q, q0⟩ | ⟨g, cap, cur, q, _⟩
  · omega
  · subst q
    exact ⟨g, cap, rfl, fun j hj => h.cellAt j (by omega)⟩

set_option maxHeartbeats 400000 in
theorem num_any (x : Int) (w : World) : Calls Try.prog 12 #[.int .i64 x] w fun e w' => e = .returned (.int .i64 x) ∧ w' = w := by
  go_enter Try.func12, Try.ntmps12
  go_wp2
  go_ret
  exact ⟨rfl, rfl⟩

set_option maxHeartbeats 400000 in
theorem kept_any (B gw N : Nat) (w : World) (col : Nat → Nat) (vl vm : Value) (L : Nat → Value) (mk : Nat → ByteArray) (inv : Inv B w col gw N N vl vm L mk) (hN : N ≤ 8388608) :
    Calls Try.prog 7 #[.pointer (some ⟨gw, 0, none⟩)] w fun e w' => e = .returned (.bool true) ∧ ∃ q, w' = w.drewN q := by
  by_cases h0 : N = 0
  · subst h0
    have c0 := inv.c0
    obtain ⟨ao, cap, hvl⟩ := owns_shape inv.ol
    rw [hvl] at c0
    go_enter Try.func7, Try.ntmps7
    go_wp2
    go_loop [3] (fun i => i = .int .i64 0) (fun i => (intOf i).toNat)
    case atStart => exact rfl
    case round =>
      obtain rfl := hrel
      go_wp2
      go_ret
      exact ⟨rfl, 0, rfl⟩
  obtain ⟨gl, capl, hvl, hcl⟩ := own_some inv.ol (by omega)
  obtain ⟨gm, capm, hvm, hcm⟩ := own_some inv.om (by omega)
  have c0 := inv.c0
  have c1 := inv.c1
  rw [hvl] at c0
  rw [hvm] at c1
  clear hvl hvm
  go_enter Try.func7, Try.ntmps7
  go_wp2
  go_loopw [3] (fun i wr => ∃ k : Nat, k ≤ N ∧ i = .int .i64 k ∧ ∃ q, wr = w.drewN q) (fun i _ => N - (intOf i).toNat)
  case atStart => exact ⟨0, by omega, rfl, 0, rfl⟩
  case round =>
    obtain ⟨k, hk, rfl, q, rfl⟩ := hrel
    by_cases hlt : k < N
    · have k1 := hcl k hlt
      have k2 := hcm k hlt
      rw [valsOf_at _ hlt] at k1 k2
      have hki : (k : Int) < (N : Int) := by omega
      rcases inv.ls k hlt with hl | ⟨g, n, cap, hl, hc, hg, hn, hcell⟩
      · rw [hl] at k1
        clear hl hcl hcm
        go_wp2_with fail
        go_loop [4] (fun i => i = .int .i64 0) (fun i => (intOf i).toNat)
        case atStart => exact rfl
        case round =>
          obtain rfl := hrel
          go_wp2
          go_roundw
          case rel => exact ⟨k + 1, by omega, by go_num, q, rfl⟩
          case measure => simp [intOf]; omega
      · rw [hl] at k1
        clear hl hcl hcm hc
        go_wp2_with fail
        go_loopw [4] (fun i wr => ∃ j : Nat, j ≤ n ∧ i = .int .i64 j ∧ ∃ q, wr = w.drewN q) (fun i _ => n - (intOf i).toNat)
        case atStart => exact ⟨0, by omega, rfl, q, rfl⟩
        case round =>
          obtain ⟨j, hj, rfl, q', rfl⟩ := hrel
          by_cases hlj : j < n
          · have k3 := hcell j hlj
            have hji : (j : Int) < (n : Int) := by omega
            go_wp2
            go_big_quiet (fail)
            go_wp2
            go_roundw
            case rel => exact ⟨j + 1, by omega, by go_num, _, rfl⟩
            case measure => simp [intOf]; omega
          · obtain rfl : j = n := by omega
            go_wp2
            go_roundw
            case rel => exact ⟨k + 1, by omega, by go_num, q', rfl⟩
            case measure => simp [intOf]; omega
    · obtain rfl : k = N := by omega
      go_wp2
      go_ret
      exact ⟨rfl, q, rfl⟩

end Go.Proofs.Ytecddphahiadlaa
