/- What the statement's own world holds: the lists that came out, each all over with its mark. -/
import Derived.Test.YtecddphahiadlaaApp
namespace Go.Proofs.Ytecddphahiadlaa
open Go.RowKit

def valsOf (L : Nat → Value) (n : Nat) : List Value := (List.range n).map L

theorem valsOf_at (L : Nat → Value) {n i : Nat} (h : i < n) : (valsOf L n)[i]? = some (L i) := by simp [valsOf, h]
theorem valsOf_length (L : Nat → Value) (n : Nat) : (valsOf L n).length = n := by simp [valsOf]
theorem valsOf_succ (L : Nat → Value) (n : Nat) : valsOf L (n + 1) = valsOf L n ++ [L n] := by simp [valsOf, List.range_succ]
theorem valsOf_congr {L M : Nat → Value} (n : Nat) (h : ∀ i, i < n → L i = M i) : valsOf L n = valsOf M n := by
  apply List.map_congr_left
  intro i hi
  exact h i (List.mem_range.1 hi)
theorem valsOf_snoc (L : Nat → Value) (n : Nat) (v : Value) : valsOf L n ++ [v] = valsOf (fun i => if i = n then v else L i) (n + 1) := by
  rw [valsOf_succ, if_pos rfl, valsOf_congr (L := fun i => if i = n then v else L i) (M := L) n (fun i hi => by rw [if_neg (by omega)])]

theorem ownsRow_of_block {w w' : World} {base : Nat} {e : TypeId} {size : Nat} {v : Value} {n : Nat} {xs : List Value} (h : w.ownsRow base e size v n xs)
    (hb : ∀ g, v.ownBlock = some g → w'.heap[g]? = w.heap[g]?) : w'.ownsRow base e size v n xs := by
  obtain ⟨h1, h2⟩ := h
  refine ⟨h1, ?_⟩
  rcases h2 with h2 | ⟨g, cap, cur, hv, hg, hh, r⟩
  · exact Or.inl h2
  · exact Or.inr ⟨g, cap, cur, hv, hg, (hb g (by rw [hv]; rfl)).trans hh, r⟩

/-- A list that came out: nothing, or a row all over with a mark. -/
def Lst (w : World) (col : Nat → Nat) (v : Value) (s : ByteArray) : Prop :=
  v = .slice none 0 0 ∨ ∃ g n cap, v = .slice (some ⟨g, 0, none⟩) n cap ∧ col g = 4 ∧ g < w.heap.size ∧ n ≤ 1000 ∧ ∀ j, j < n → w.cell? ⟨g, j, none⟩ = some (.string s)

theorem Lst.keep {w w' : World} {col col' : Nat → Nat} {v : Value} {s : ByteArray} (h : Lst w col v s) (hs : w.heap.size ≤ w'.heap.size)
    (hb : ∀ g, v.ownBlock = some g → g < w.heap.size → col g = 4 → w'.heap[g]? = w.heap[g]? ∧ col' g = 4) : Lst w' col' v s := by
  rcases h with h | ⟨g, n, cap, hv, hc, hg, hn, hcell⟩
  · exact Or.inl h
  · obtain ⟨e1, e2⟩ := hb g (by rw [hv]; rfl) hg hc
    exact Or.inr ⟨g, n, cap, hv, e2, by omega, hn, fun j hj => (World.cell?_of_block (w := w) (w' := w') e1).trans (hcell j hj)⟩

/-- The statement's world: its block, the row of lists, the row of marks. -/
structure Inv (B : Nat) (w : World) (col : Nat → Nat) (gw Nl Nm : Nat) (vl vm : Value) (L : Nat → Value) (mk : Nat → ByteArray) : Prop where
  gwB : B ≤ gw
  gwc : col gw = 1
  row : w.rowIs gw 32 8 (fun i => if i = 0 then vl else if i = 1 then vm else .slice none 0 0)
  ol : w.ownsRow B 25 1 vl Nl (valsOf L Nl)
  om : w.ownsRow B 9 1 vm Nm (valsOf (fun i => .string (mk i)) Nm)
  olc : ∀ g, vl.ownBlock = some g → col g = 2
  omc : ∀ g, vm.ownBlock = some g → col g = 3
  ls : ∀ i, i < Nm → Lst w col (L i) (mk i)

theorem Inv.keep {B : Nat} {w w' : World} {col : Nat → Nat} {gw Nl Nm : Nat} {vl vm : Value} {L : Nat → Value} {mk : Nat → ByteArray} (h : Inv B w col gw Nl Nm vl vm L mk) (hs : w.heap.size ≤ w'.heap.size)
    (hb : ∀ g, g < w.heap.size → col g ≠ 0 → w'.heap[g]? = w.heap[g]?) : Inv B w' col gw Nl Nm vl vm L mk :=
  ⟨h.gwB, h.gwc, h.row.of_block (hb gw h.row.lt (by rw [h.gwc]; omega)),
    ownsRow_of_block h.ol (fun g hg => hb g (h.ol.lt g hg).2 (by rw [h.olc g hg]; omega)),
    ownsRow_of_block h.om (fun g hg => hb g (h.om.lt g hg).2 (by rw [h.omc g hg]; omega)),
    h.olc, h.omc, fun i hi => (h.ls i hi).keep hs (fun g _ hg hc => ⟨hb g hg (by rw [hc]; omega), hc⟩)⟩

theorem Inv.later {B : Nat} {w w' : World} {col : Nat → Nat} {gw Nl Nm : Nat} {vl vm : Value} {L : Nat → Value} {mk : Nat → ByteArray} (h : Inv B w col gw Nl Nm vl vm L mk) (hb : Below w.heap.size w w') : Inv B w' col gw Nl Nm vl vm L mk :=
  h.keep hb.size (fun g hg _ => hb.block g hg)

/-- .. and the list that is being kept: k cells, all of them the mark m. -/
structure KS (B : Nat) (w : World) (col : Nat → Nat) (gw Nl Nm : Nat) (vl vm : Value) (L : Nat → Value) (mk : Nat → ByteArray) (v : Value) (k : Nat) (m : ByteArray) : Prop where
  inv : Inv B w col gw Nl Nm vl vm L mk
  ov : w.ownsRow B 9 1 v k (valsOf (fun _ => .string m) k)
  ovc : ∀ g, v.ownBlock = some g → col g = 4
  cmp : ∀ i, i < Nm → ∀ g n cap, L i = .slice (some ⟨g, 0, none⟩) n cap → v.ownBlock = some g → mk i = m ∧ n ≤ k

/-- What an append on a row of colour c leaves. -/
structure Stp (W W' : World) (col : Nat → Nat) (c g' : Nat) : Prop where
  size : W.heap.size < W'.heap.size
  glt : g' < W'.heap.size
  same : ∀ b, b < W.heap.size → b ≠ g' → W'.heap[b]? = W.heap[b]?
  far : ∀ b, b < W.heap.size → col b ≠ c → b ≠ g'

theorem stp_of {W W' : World} {col : Nat → Nat} {c g' : Nat} {v : Value} {o : Obj} {n cap : Nat} {base : Nat} {e : TypeId} {size : Nat} {xs : List Value} (hc : ∀ g, v.ownBlock = some g → col g = c) (hd : W.heap.size + 1 ≤ g' ∨ v.ownBlock = some g')
    (hg : (W.alloc o).grownBy W' (some g')) (ho : W'.ownsRow base e size (.slice (some ⟨g', 0, none⟩) n cap) n xs) : Stp W W' col c g' := by
  have hs : (W.alloc o).heap.size = W.heap.size + 1 := by simp
  have h1 := hg.size
  refine ⟨by omega, (ho.lt g' rfl).2, fun b hb hne => ?_, fun b hb hcb => ?_⟩
  · rw [hg.block b (by omega) (by intro e; exact hne (Option.some.inj e))]
    exact Below.heap_alloc W o b hb
  · intro e
    subst e
    rcases hd with hd | hd
    · omega
    · exact hcb (hc b hd)

def upd (col : Nat → Nat) (g c : Nat) : Nat → Nat := fun b => if b = g then c else col b
theorem upd_same (col : Nat → Nat) (g c : Nat) : upd col g c g = c := by simp [upd]
theorem upd_other (col : Nat → Nat) {g b c : Nat} (h : b ≠ g) : upd col g c b = col b := by simp [upd, h]

section
variable {B : Nat} {w w' : World} {col : Nat → Nat} {gw N Nm : Nat} {vl vm : Value} {L : Nat → Value} {mk : Nat → ByteArray} {v : Value} {k : Nat} {m : ByteArray}

/-- 'w.lists = append(w.lists, l)'. -/
theorem ks_list (h : KS B w col gw N N vl vm L mk v k m) {gl capl : Nat} (hst : Stp w w' col 2 gl)
    (ho : w'.ownsRow B 25 1 (.slice (some ⟨gl, 0, none⟩) (N + 1) capl) (N + 1) (valsOf L N ++ [v])) :
    KS B (w'.setCell ⟨gw, 0, none⟩ (.slice (some ⟨gl, 0, none⟩) (N + 1) capl)) (upd col gl 2) gw (N + 1) N (.slice (some ⟨gl, 0, none⟩) (N + 1) capl) vm (fun i => if i = N then v else L i) mk v k m := by
  have hgw : gw ≠ gl := hst.far gw h.inv.row.lt (by rw [h.inv.gwc]; omega)
  have blk : ∀ b, b < w.heap.size → b ≠ gl → b ≠ gw → (w'.setCell ⟨gw, 0, none⟩ (.slice (some ⟨gl, 0, none⟩) (N + 1) capl)).heap[b]? = w.heap[b]? := fun b hb h1 h2 => (Below.heap_setCell _ _ _ _ h2).trans (hst.same b hb h1)
  have hsz : w.heap.size ≤ (w'.setCell ⟨gw, 0, none⟩ (.slice (some ⟨gl, 0, none⟩) (N + 1) capl)).heap.size := by have := hst.size; simp [World.setCell]; omega
  have far : ∀ b, b < w.heap.size → col b ≠ 2 → col b ≠ 1 → b ≠ gl ∧ b ≠ gw := fun b hb h2 h1 => ⟨hst.far b hb h2, fun e => h1 (by rw [e]; exact h.inv.gwc)⟩
  refine ⟨⟨h.inv.gwB, by rw [upd_other col hgw]; exact h.inv.gwc, ?_, ?_, ?_, ?_, ?_, ?_⟩, ?_, ?_, ?_⟩
  · exact ((h.inv.row.of_block (hst.same gw h.inv.row.lt hgw)).set 0 _).congr (fun i _ => by
      by_cases e : i = 0
      · rw [if_pos e, if_pos e]
      · rw [if_neg e, if_neg e, if_neg e])
  · rw [← valsOf_snoc]
    exact ownsRow_of_block ho (fun g hg => Below.heap_setCell _ _ _ _ (by obtain rfl := Option.some.inj hg; exact fun e => hgw e.symm))
  · exact ownsRow_of_block h.inv.om (fun g hg => by
      have hc := h.inv.omc g hg
      obtain ⟨e1, e2⟩ := far g (h.inv.om.lt g hg).2 (by omega) (by omega)
      exact blk g (h.inv.om.lt g hg).2 e1 e2)
  · intro g hg
    obtain rfl := Option.some.inj hg
    exact upd_same _ _ _
  · intro g hg
    have hc := h.inv.omc g hg
    rw [upd_other col (far g (h.inv.om.lt g hg).2 (by omega) (by omega)).1]
    exact hc
  · intro i hi
    rw [if_neg (by omega)]
    exact (h.inv.ls i hi).keep hsz (fun g _ hg hc => by
      obtain ⟨e1, e2⟩ := far g hg (by omega) (by omega)
      exact ⟨blk g hg e1 e2, by rw [upd_other col e1]; exact hc⟩)
  · exact ownsRow_of_block h.ov (fun g hg => by
      have hc := h.ovc g hg
      obtain ⟨e1, e2⟩ := far g (h.ov.lt g hg).2 (by omega) (by omega)
      exact blk g (h.ov.lt g hg).2 e1 e2)
  · intro g hg
    have hc := h.ovc g hg
    rw [upd_other col (far g (h.ov.lt g hg).2 (by omega) (by omega)).1]
    exact hc
  · intro i hi g n cap hL hv
    rw [if_neg (by omega)] at hL
    exact h.cmp i hi g n cap hL hv

/-- 'w.marks = append(w.marks, m)'. -/
theorem ks_mark (h : KS B w col gw (N + 1) N vl vm L mk v k m) (hL : L N = v) (hk : k ≤ 1000) {gm capm : Nat} (hst : Stp w w' col 3 gm)
    (ho : w'.ownsRow B 9 1 (.slice (some ⟨gm, 0, none⟩) (N + 1) capm) (N + 1) (valsOf (fun i => .string (mk i)) N ++ [.string m])) :
    KS B (w'.setCell ⟨gw, 1, none⟩ (.slice (some ⟨gm, 0, none⟩) (N + 1) capm)) (upd col gm 3) gw (N + 1) (N + 1) vl (.slice (some ⟨gm, 0, none⟩) (N + 1) capm) L (fun i => if i = N then m else mk i) v k m := by
  have hgw : gw ≠ gm := hst.far gw h.inv.row.lt (by rw [h.inv.gwc]; omega)
  have blk : ∀ b, b < w.heap.size → b ≠ gm → b ≠ gw → (w'.setCell ⟨gw, 1, none⟩ (.slice (some ⟨gm, 0, none⟩) (N + 1) capm)).heap[b]? = w.heap[b]? := fun b hb h1 h2 => (Below.heap_setCell _ _ _ _ h2).trans (hst.same b hb h1)
  have hsz : w.heap.size ≤ (w'.setCell ⟨gw, 1, none⟩ (.slice (some ⟨gm, 0, none⟩) (N + 1) capm)).heap.size := by have := hst.size; simp [World.setCell]; omega
  have far : ∀ b, b < w.heap.size → col b ≠ 3 → col b ≠ 1 → b ≠ gm ∧ b ≠ gw := fun b hb h2 h1 => ⟨hst.far b hb h2, fun e => h1 (by rw [e]; exact h.inv.gwc)⟩
  have hov' := ownsRow_of_block h.ov (w' := w'.setCell ⟨gw, 1, none⟩ (.slice (some ⟨gm, 0, none⟩) (N + 1) capm)) (fun g hg => by
      have hc := h.ovc g hg
      obtain ⟨e1, e2⟩ := far g (h.ov.lt g hg).2 (by omega) (by omega)
      exact blk g (h.ov.lt g hg).2 e1 e2)
  have hovc' : ∀ g, v.ownBlock = some g → upd col gm 3 g = 4 := by
    intro g hg
    have hc := h.ovc g hg
    rw [upd_other col (far g (h.ov.lt g hg).2 (by omega) (by omega)).1]
    exact hc
  refine ⟨⟨h.inv.gwB, by rw [upd_other col hgw]; exact h.inv.gwc, ?_, ?_, ?_, ?_, ?_, ?_⟩, hov', hovc', ?_⟩
  · exact ((h.inv.row.of_block (hst.same gw h.inv.row.lt hgw)).set 1 _).congr (fun i _ => by
      by_cases e0 : i = 0
      · subst e0; simp
      · by_cases e : i = 1
        · subst e; simp
        · rw [if_neg e, if_neg e0, if_neg e, if_neg e0, if_neg e])
  · exact ownsRow_of_block h.inv.ol (fun g hg => by
      have hc := h.inv.olc g hg
      obtain ⟨e1, e2⟩ := far g (h.inv.ol.lt g hg).2 (by omega) (by omega)
      exact blk g (h.inv.ol.lt g hg).2 e1 e2)
  · have e : valsOf (fun i => .string (mk i)) N ++ [.string m] = valsOf (fun i => .string (if i = N then m else mk i)) (N + 1) := by
      rw [valsOf_snoc]
      apply valsOf_congr
      intro i _
      by_cases e : i = N
      · rw [if_pos e, if_pos e]
      · rw [if_neg e, if_neg e]
    rw [← e]
    exact ownsRow_of_block ho (fun g hg => Below.heap_setCell _ _ _ _ (by obtain rfl := Option.some.inj hg; exact fun e => hgw e.symm))
  · intro g hg
    have hc := h.inv.olc g hg
    rw [upd_other col (far g (h.inv.ol.lt g hg).2 (by omega) (by omega)).1]
    exact hc
  · intro g hg
    obtain rfl := Option.some.inj hg
    exact upd_same _ _ _
  · intro i hi
    by_cases e : i = N
    · subst e
      rw [if_pos rfl, hL]
      have hcp := hov'
      obtain ⟨q1, q2⟩ := hcp
      rcases q2 with ⟨q2, _⟩ | ⟨g, cap, cur, hv, hg, hh, _⟩
      · exact Or.inl q2
      · refine Or.inr ⟨g, k, cap, hv, hovc' g (by rw [hv]; rfl), (Array.getElem?_eq_some_iff.1 hh).1, hk, fun j hj => ?_⟩
        rw [hv] at hov'
        rw [hov'.cellAt j (by omega), valsOf_at _ hj]
    · rw [if_neg e]
      exact (h.inv.ls i (by omega)).keep hsz (fun g _ hg hc => by
        obtain ⟨e1, e2⟩ := far g hg (by omega) (by omega)
        exact ⟨blk g hg e1 e2, by rw [upd_other col e1]; exact hc⟩)
  · intro i hi g n cap hLi hv
    by_cases e : i = N
    · subst e
      rw [if_pos rfl]
      refine ⟨rfl, ?_⟩
      rw [hL] at hLi
      obtain ⟨q1, q2⟩ := h.ov
      rcases q2 with ⟨q2, _⟩ | ⟨g', cap', cur, hv', _⟩
      · rw [q2] at hLi; simp at hLi
      · rw [hv'] at hLi
        simp at hLi
        omega
    · rw [if_neg e]
      exact h.cmp i (by omega) g n cap hLi hv

/-- 'l = append(l, m)'. -/
theorem ks_more (h : KS B w col gw N N vl vm L mk v k m) {g' cap' : Nat} (hst : Stp w w' col 4 g') (hd : w.heap.size + 1 ≤ g' ∨ v.ownBlock = some g')
    (ho : w'.ownsRow B 9 1 (.slice (some ⟨g', 0, none⟩) (k + 1) cap') (k + 1) (valsOf (fun _ => .string m) k ++ [.string m])) :
    KS B w' (upd col g' 4) gw N N vl vm L mk (.slice (some ⟨g', 0, none⟩) (k + 1) cap') (k + 1) m := by
  have hgw : gw ≠ g' := hst.far gw h.inv.row.lt (by rw [h.inv.gwc]; omega)
  have hsz : w.heap.size ≤ w'.heap.size := by have := hst.size; omega
  have ho' : w'.ownsRow B 9 1 (.slice (some ⟨g', 0, none⟩) (k + 1) cap') (k + 1) (valsOf (fun _ => .string m) (k + 1)) := by
    rw [valsOf_succ]; exact ho
  have hnew : ∀ i, i < N → ∀ g n cap, L i = .slice (some ⟨g, 0, none⟩) n cap → g < w.heap.size → g = g' → mk i = m ∧ n ≤ k := by
    intro i hi g n cap hL hg e
    subst e
    rcases hd with hd | hd
    · omega
    · exact h.cmp i hi g n cap hL hd
  refine ⟨⟨h.inv.gwB, by rw [upd_other col hgw]; exact h.inv.gwc, h.inv.row.of_block (hst.same gw h.inv.row.lt hgw), ?_, ?_, ?_, ?_, ?_⟩, ho', ?_, ?_⟩
  · exact ownsRow_of_block h.inv.ol (fun g hg => hst.same g (h.inv.ol.lt g hg).2 (hst.far g (h.inv.ol.lt g hg).2 (by rw [h.inv.olc g hg]; omega)))
  · exact ownsRow_of_block h.inv.om (fun g hg => hst.same g (h.inv.om.lt g hg).2 (hst.far g (h.inv.om.lt g hg).2 (by rw [h.inv.omc g hg]; omega)))
  · intro g hg
    rw [upd_other col (hst.far g (h.inv.ol.lt g hg).2 (by rw [h.inv.olc g hg]; omega))]
    exact h.inv.olc g hg
  · intro g hg
    rw [upd_other col (hst.far g (h.inv.om.lt g hg).2 (by rw [h.inv.omc g hg]; omega))]
    exact h.inv.omc g hg
  · intro i hi
    rcases h.inv.ls i hi with hl | ⟨g, n, cap, hL, hc, hg, hn, hcell⟩
    · exact Or.inl hl
    · by_cases e : g = g'
      · obtain ⟨e1, e2⟩ := hnew i hi g n cap hL hg e
        subst e
        refine Or.inr ⟨g, n, cap, hL, upd_same _ _ _, hst.glt, hn, fun j hj => ?_⟩
        have := World.ownsRow.cellAt ho' j (by omega)
        rw [this, valsOf_at _ (by omega), e1]
      · exact Or.inr ⟨g, n, cap, hL, by rw [upd_other col e]; exact hc, by omega, hn, fun j hj => (World.cell?_of_block (w := w) (w' := w') (a := ⟨g, j, none⟩) (hst.same g hg e)).trans (hcell j hj)⟩
  · intro g hg
    obtain rfl := Option.some.inj hg
    exact upd_same _ _ _
  · intro i hi g n cap hL hv
    have e : g' = g := Option.some.inj hv
    subst e
    rcases h.inv.ls i hi with hl | ⟨g2, n2, cap2, hL2, hc, hg, hn, hcell⟩
    · rw [hl] at hL; simp at hL
    · rw [hL2] at hL
      simp at hL
      obtain ⟨rfl, rfl, rfl⟩ := hL
      obtain ⟨e1, e2⟩ := hnew i hi g2 n2 cap2 hL2 hg rfl
      exact ⟨e1, by omega⟩

theorem Inv.recolor (h : Inv B w col gw N Nm vl vm L mk) {g c : Nat} (hg : col g = 0 ∨ w.heap.size ≤ g) : Inv B w (upd col g c) gw N Nm vl vm L mk := by
  have far : ∀ b, b < w.heap.size → col b ≠ 0 → b ≠ g := by
    intro b hb hc e
    subst e
    rcases hg with hg | hg
    · exact hc hg
    · omega
  refine ⟨h.gwB, ?_, h.row, h.ol, h.om, ?_, ?_, fun i hi => (h.ls i hi).keep (Nat.le_refl _) (fun b _ hb hc => ⟨rfl, ?_⟩)⟩
  · rw [upd_other col (far gw h.row.lt (by rw [h.gwc]; omega))]; exact h.gwc
  · intro b hb
    rw [upd_other col (far b (h.ol.lt b hb).2 (by rw [h.olc b hb]; omega))]; exact h.olc b hb
  · intro b hb
    rw [upd_other col (far b (h.om.lt b hb).2 (by rw [h.omc b hb]; omega))]; exact h.omc b hb
  · rw [upd_other col (far b hb (by rw [hc]; omega))]; exact hc

theorem Inv.c0 (h : Inv B w col gw N Nm vl vm L mk) : w.cell? ⟨gw, 0, none⟩ = some vl := by simpa using h.row.cell (i := 0) (by omega)
theorem Inv.c1 (h : Inv B w col gw N Nm vl vm L mk) : w.cell? ⟨gw, 1, none⟩ = some vm := by simpa using h.row.cell (i := 1) (by omega)

/-- The list that is handed to keep: nothing, or a new row. -/
def Fresh (B : Nat) (w : World) (col : Nat → Nat) (v : Value) (n : Nat) : Prop :=
  (v = .slice none 0 0 ∧ n = 0) ∨ ∃ (g : Nat) (f : Nat → ByteArray), v = .slice (some ⟨g, 0, none⟩) n n ∧ B ≤ g ∧ col g = 0 ∧ w.rowIs g 9 n (fun i => .string (f i))

theorem ks_start_nil (h : Inv B w col gw N N vl vm L mk) (m : ByteArray) : KS B w col gw N N vl vm L mk (.slice none 0 0) 0 m :=
  ⟨h, World.ownsRow_nil _ _ _ _, fun g hg => by simp [Value.ownBlock] at hg, fun i _ g n cap _ hv => by simp [Value.ownBlock] at hv⟩

theorem ks_start (h : Inv B w col gw N N vl vm L mk) {g n : Nat} {m : ByteArray} (hB : B ≤ g) (hn : n ≤ 1000) (hc : col g = 0) (hs : w.heap.size ≤ w'.heap.size) (hb : ∀ b, b < w.heap.size → b ≠ g → w'.heap[b]? = w.heap[b]?)
    (hrow : w'.rowIs g 9 n (fun _ => .string m)) : KS B w' (upd col g 4) gw N N vl vm L mk (.slice (some ⟨g, 0, none⟩) n n) n m := by
  have far : ∀ b, b < w.heap.size → col b ≠ 0 → b ≠ g := fun b _ h1 e => h1 (by rw [e]; exact hc)
  have i2 := (h.keep hs (fun b hb' hcb => hb b hb' (far b hb' hcb)))
  refine ⟨i2.recolor (Or.inl hc), ?_, ?_, ?_⟩
  · obtain ⟨c, hc1, hc2, hc3⟩ := hrow
    refine ⟨by rw [valsOf_length]; omega, Or.inr ⟨g, n, c, rfl, hB, hc1, Nat.le_refl _, by unfold maxLen; omega, by omega, ?_⟩⟩
    apply List.ext_getElem?
    intro j
    by_cases hj : j < n
    · rw [valsOf_at _ hj, List.getElem?_take_of_lt (by omega), Array.getElem?_toList, hc3 j hj]
    · rw [List.getElem?_eq_none (by simp; omega), List.getElem?_eq_none (by rw [valsOf_length]; omega)]
  · intro b hb'
    obtain rfl := Option.some.inj hb'
    exact upd_same _ _ _
  · intro i hi b n' cap hL hv
    obtain rfl := Option.some.inj hv
    rcases h.ls i hi with hl | ⟨g2, n2, cap2, hL2, hc2, _⟩
    · rw [hl] at hL; simp at hL
    · rw [hL2] at hL
      simp at hL
      obtain ⟨rfl, _, _⟩ := hL
      have hc2' : col g2 = 4 := hc2
      have : col g2 = 0 := hc
      omega

end
end Go.Proofs.Ytecddphahiadlaa
