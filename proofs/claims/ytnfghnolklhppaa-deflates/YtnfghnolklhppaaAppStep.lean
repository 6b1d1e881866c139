/- One more element on a slice of the call's own, as one step of a statement whose order is open. -/
import Derived.Test.YtnfghnolklhppaaApp
import Derived.Deep.RegionLawGrows
namespace Go.Proofs.Ytnfghnolklhppaa
open Go.RowKit

theorem run_append1 {P : Program} (w : World) (base : Nat) (t ty e : TypeId) (z : Value) (bytes : Nat) (h1 : P.underlying t = some (.slice e)) (hinfo : (P.info? e).map (fun i => (i.zero, i.size, i.bytes)) = some (some z, 1, bytes)) (hz1 : z.cells.size = 1)
    (v : Value) (n : Nat) (xs : List Value) (u : Value) (hu : u.oneCell' = true) (gn c : Nat) (hc : w.cell? ⟨gn, 0, none⟩ = some u)
    (hown : w.ownsRow base e 1 v n xs) (hbase : base ≤ w.heap.size) (b1 : n + 1 ≤ maxLen) (b2 : (n + 1) * bytes ≤ 140737488355328) :
    ∃ g' cap' w', (Builtin.append_ #[t, t] ty #[v, .slice (some ⟨gn, 0, none⟩) 1 c]).run P w = .ok (.slice (some ⟨g', 0, none⟩) (n + 1) cap') w' ∧ w'.ownsRow base e 1 (.slice (some ⟨g', 0, none⟩) (n + 1) cap') (n + 1) (xs ++ [u]) ∧
      (w.heap.size ≤ g' ∨ v.ownBlock = some g') ∧ w.grownBy w' (some g') := by
  obtain ⟨i0, hi, hz0, hs1, hby⟩ := info_parts hinfo
  have hone : ∀ y ∈ [u], y.oneCell' = true := by intro y hy; simp at hy; subst hy; exact hu
  have hcells : ∀ j y, [u][j]? = some y → w.cell? ((⟨gn, 0, none⟩ : Addr).add j) = some y := by
    intro j y hj
    match j, hj with
    | 0, hj =>
      simp only [List.getElem?_cons_zero, Option.some.injEq] at hj
      subst hj
      rw [addr_add0]; exact hc
    | j + 1, hj => simp at hj
  have fin : ∀ v' w', (Builtin.append_ #[t, t] ty #[v, .slice (some ⟨gn, 0, none⟩) 1 c]).run P w = .ok v' w' → w'.ownsRow w.heap.size e 1 v' (n + 1) (xs ++ [u]) → w.grownBy w' none → ∃ g' cap' w', (Builtin.append_ #[t, t] ty #[v, .slice (some ⟨gn, 0, none⟩) 1 c]).run P w = .ok (.slice (some ⟨g', 0, none⟩) (n + 1) cap') w' ∧ w'.ownsRow base e 1 (.slice (some ⟨g', 0, none⟩) (n + 1) cap') (n + 1) (xs ++ [u]) ∧
      (w.heap.size ≤ g' ∨ v.ownBlock = some g') ∧ w.grownBy w' (some g') := by
    intro v' w' hrun ho hgr
    obtain ⟨q1, q2⟩ := ho
    rcases q2 with ⟨_, q2⟩ | ⟨g', cap', cur, hv', hb, r⟩
    · omega
    · subst hv'
      exact ⟨g', cap', w', hrun, ⟨q1, Or.inr ⟨g', cap', cur, rfl, by omega, r⟩⟩, Or.inl hb, ⟨hgr.os, hgr.tape, hgr.output, hgr.size, fun k hk _ => hgr.block k hk (by simp)⟩⟩
  have hown0 := hown
  obtain ⟨q1, q2⟩ := hown
  rcases q2 with ⟨hv, hn0⟩ | ⟨g, cap, cur, hv, hb, hh, hnc, hcm, hcs, htk⟩
  · subst hv
    subst hn0
    obtain rfl : xs = [] := List.eq_nil_of_length_eq_zero (by simpa using q1)
    obtain ⟨v', w', hrun, r1, r2, _⟩ := run_append_own (P := P) w w.heap.size t ty e i0 z 1 bytes h1 hi hz0 hs1 hby hz1 (by omega) (.slice none 0 0) 0 [] (World.ownsRow_nil w _ e 1) ⟨gn, 0, none⟩ 1 c [u] rfl hcells hone b1 b2 (Nat.le_refl _)
    exact fin v' w' hrun r1 r2
  · subst hv
    by_cases hroom : n + 1 ≤ cap
    · obtain ⟨w', hrun, r1, r2⟩ := run_append_fits (P := P) w base t ty e i0 1 h1 hi hs1 g n cap xs hown0 ⟨gn, 0, none⟩ 1 c [u] rfl hcells hone hroom
      exact ⟨g, cap, w', hrun, r1, Or.inr rfl, r2⟩
    · obtain ⟨v', w', hrun, r1, r2⟩ := run_append_arg_grows (P := P) w t ty e i0 z 1 bytes h1 hi hz0 hs1 hby hz1 (by omega) ⟨g, 0, none⟩ n cap xs q1 (hown0.cells (g := g) rfl) ⟨gn, 0, none⟩ 1 c [u] rfl hcells (by omega) b1 b2
      exact fin v' w' hrun r1 r2

theorem step_append1 {P : Program} {ops : Array Oper} {o : Oper} {a : Act} {w : World} {K : Act → World → Prop} {Q : Exit → Act → World → Prop} {E : Prop}
    (hg : o.guard = none) (s x : Operand) (t : TypeId) (hop : o.op = Op.call { callee := Callee.builtin Builtin.append, args := #[s, x], argTypes := #[t, t] })
    (base : Nat) (e : TypeId) (z : Value) (bytes : Nat) (h1 : P.underlying t = some (.slice e)) (hinfo : (P.info? e).map (fun i => (i.zero, i.size, i.bytes)) = some (some z, 1, bytes)) (hz1 : z.cells.size = 1)
    (v : Value) (n : Nat) (xs : List Value) (u : Value) (hs : a.eval s = v) (hu : u.oneCell' = true) (gn c : Nat) (hx : a.eval x = .slice (some ⟨gn, 0, none⟩) 1 c) (hc : w.cell? ⟨gn, 0, none⟩ = some u)
    (hown : w.ownsRow base e 1 v n xs) (hbase : base ≤ w.heap.size) (b1 : n + 1 ≤ maxLen) (b2 : (n + 1) * bytes ≤ 140737488355328)
    (hK : ∀ g' cap' w', w'.ownsRow base e 1 (.slice (some ⟨g', 0, none⟩) (n + 1) cap') (n + 1) (xs ++ [u]) → (w.heap.size ≤ g' ∨ v.ownBlock = some g') → w.grownBy w' (some g') → K (a.put o.dst (.slice (some ⟨g', 0, none⟩) (n + 1) cap')) w') :
    if Region.wanted o (yielded ops a.tmps) = true then Oper.wp P o a w K Q else E := by
  have hw : Region.wanted o (yielded ops a.tmps) = true := by simp [Region.wanted, hg]
  rw [if_pos hw]
  obtain ⟨g', cap', w', hrun, r1, r2, r3⟩ := run_append1 (P := P) w base t o.type e z bytes h1 hinfo hz1 v n xs u hu gn c hc hown hbase b1 b2
  unfold Oper.wp
  simp [execOp, hop, resolve, invoke, builtin, hs, hx, hrun, Result.andThen]
  exact hK g' cap' w' r1 r2 r3

end Go.Proofs.Ytnfghnolklhppaa
