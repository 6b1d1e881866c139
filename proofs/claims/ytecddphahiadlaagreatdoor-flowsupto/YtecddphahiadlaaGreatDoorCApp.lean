/- One more element on a slice of the call's own: in place, or in a new block. -/
import Derived.Test.YtecddphahiadlaaGreatDoorCPure
import Derived.ArgAppend
namespace Go.Proofs.YtecddphahiadlaaGreatDoor
open Go.RowKit

theorem one_cell_new {w : World} {s : Nat} (hs : w.heap.size = s) (v : Value) (t : TypeId) (j : Nat) (u : Value) (h : [v][j]? = some u) : (w.alloc (.cells #[v] t)).cell? ((⟨s, 0, none⟩ : Addr).add j) = some u := by
  subst hs
  match j, h with
  | 0, h =>
    simp only [List.getElem?_cons_zero, Option.some.injEq] at h
    subst h
    rw [addr_add0]
    simp
  | j + 1, h => simp at h

theorem wpList_append1 {P : Program} (w : World) {ops : Array Oper} {rest : List Oper} {o : Oper} {a : Act} {Q : Exit → Act → World → Prop}
    (hg : o.guard = none) (s x : Operand) (t : TypeId) (hop : o.op = Op.call { callee := Callee.builtin Builtin.append, args := #[s, x], argTypes := #[t, t] })
    (base : Nat) (e : TypeId) (z : Value) (bytes : Nat) (h1 : P.underlying t = some (.slice e)) (hinfo : (P.info? e).map (fun i => (i.zero, i.size, i.bytes)) = some (some z, 1, bytes)) (hz1 : z.cells.size = 1)
    (v : Value) (n : Nat) (xs : List Value) (u : Value) (hs : a.eval s = v) (hu : u.oneCell' = true) (hx : a.eval x = .slice (some ⟨w.heap.size, 0, none⟩) 1 1)
    (hown : w.ownsRow base e 1 v n xs) (hbase : base ≤ w.heap.size) (b1 : n + 1 ≤ maxLen) (b2 : (n + 1) * bytes ≤ 140737488355328)
    (hK : ∀ g' cap' w', w'.ownsRow base e 1 (.slice (some ⟨g', 0, none⟩) (n + 1) cap') (n + 1) (xs ++ [u]) → (w.heap.size + 1 ≤ g' ∨ v.ownBlock = some g') → (w.alloc (.cells #[u] e)).grownBy w' (some g') → wpList P ops Q rest (a.put o.dst (.slice (some ⟨g', 0, none⟩) (n + 1) cap')) w') :
    wpList P ops Q (o :: rest) a (w.alloc (.cells #[u] e)) := by
  obtain ⟨i0, hi, hz0, hs1, hby⟩ := info_parts hinfo
  have hown' := hown.alloc (.cells #[u] e)
  have hsz : (w.alloc (.cells #[u] e)).heap.size = w.heap.size + 1 := by simp
  have hcells : ∀ j y, [u][j]? = some y → (w.alloc (.cells #[u] e)).cell? ((⟨w.heap.size, 0, none⟩ : Addr).add j) = some y := fun j y hj => one_cell_new rfl u e j y hj
  have hone : ∀ y ∈ [u], y.oneCell' = true := by intro y hy; simp at hy; subst hy; exact hu
  have grow : ∀ (ao : Option Addr) (cap : Nat), v = .slice ao n cap → (ao = none → n = 0 ∧ cap = 0) → (∀ b, ao = some b → ∀ j y, xs[j]? = some y → (w.alloc (.cells #[u] e)).cell? (b.add j) = some y) → xs.length = n * 1 → cap < n + 1 → wpList P ops Q (o :: rest) a (w.alloc (.cells #[u] e)) := by
    intro ao cap hv hno hol hlen hfull
    refine wpList_append_grows _ hg s x t hop e i0 z 1 bytes h1 hi hz0 hs1 hby hz1 (by omega) ao n cap xs (hs.trans hv) hno hlen hol ⟨w.heap.size, 0, none⟩ 1 1 [u] hx rfl hcells hone hfull b1 b2 ?_
    intro v' w' ho hgr
    obtain ⟨q1, q2⟩ := ho
    rcases q2 with ⟨_, q2⟩ | ⟨g', cap', cur, hv', hb, r⟩
    · omega
    · subst hv'
      rw [hsz] at hb
      exact hK g' cap' w' ⟨q1, Or.inr ⟨g', cap', cur, rfl, by omega, r⟩⟩ (Or.inl hb) ⟨hgr.os, hgr.tape, hgr.output, hgr.size, fun k hk _ => hgr.block k hk (by simp)⟩
  obtain ⟨q1, q2⟩ := hown
  rcases q2 with ⟨hv, hn0⟩ | ⟨g, cap, cur, hv, hb, hh, hnc, hcm, hcs, htk⟩
  · exact grow none 0 (by rw [hv, hn0]) (fun _ => ⟨hn0, rfl⟩) (fun b hb => by simp at hb) q1 (by omega)
  · by_cases hroom : n + 1 ≤ cap
    · refine wpList_append_fits _ hg s x t hop base e i0 1 h1 hi hs1 g n cap xs (hs.trans hv) (by rw [← hv]; exact hown') ⟨w.heap.size, 0, none⟩ 1 1 [u] hx rfl hcells hone hroom ?_
      intro w' ho hgr
      exact hK g cap w' ho (Or.inr (by rw [hv]; rfl)) hgr
    · refine grow (some ⟨g, 0, none⟩) cap hv (fun h => by simp at h) (fun b hb' j y hj => ?_) q1 (by omega)
      obtain rfl := Option.some.inj hb'
      exact hown'.cells (g := g) (by rw [hv]; rfl) j y hj

theorem wpList_append1s {P : Program} (w : World) {ops : Array Oper} {rest : List Oper} {o : Oper} {a : Act} {Q : Exit → Act → World → Prop}
    (hg : o.guard = none) (s x : Operand) (t : TypeId) (hop : o.op = Op.call { callee := Callee.builtin Builtin.append, args := #[s, x], argTypes := #[t, t] })
    (base : Nat) (e : TypeId) (z : Value) (bytes : Nat) (h1 : P.underlying t = some (.slice e)) (hinfo : (P.info? e).map (fun i => (i.zero, i.size, i.bytes)) = some (some z, 1, bytes)) (hz1 : z.cells.size = 1)
    (v : Value) (n : Nat) (xs : List Value) (u : Value) (hs : a.eval s = v) (hu : u.oneCell' = true) (sz : Nat) (hsz : w.heap.size = sz) (hx : a.eval x = .slice (some ⟨sz, 0, none⟩) 1 1)
    (hown : w.ownsRow base e 1 v n xs) (hbase : base ≤ w.heap.size) (b1 : n + 1 ≤ maxLen) (b2 : (n + 1) * bytes ≤ 140737488355328)
    (hK : ∀ g' cap' w', w'.ownsRow base e 1 (.slice (some ⟨g', 0, none⟩) (n + 1) cap') (n + 1) (xs ++ [u]) → (w.heap.size + 1 ≤ g' ∨ v.ownBlock = some g') → (w.alloc (.cells #[u] e)).grownBy w' (some g') → wpList P ops Q rest (a.put o.dst (.slice (some ⟨g', 0, none⟩) (n + 1) cap')) w') :
    wpList P ops Q (o :: rest) a (w.alloc (.cells #[u] e)) := by
  subst hsz
  exact wpList_append1 w hg s x t hop base e z bytes h1 hinfo hz1 v n xs u hs hu hx hown hbase b1 b2 hK

end Go.Proofs.YtecddphahiadlaaGreatDoor
