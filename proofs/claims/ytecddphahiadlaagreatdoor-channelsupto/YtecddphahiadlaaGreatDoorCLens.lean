import Derived.Test.YtecddphahiadlaaGreatDoorCSyms
import Derived.Test.YtecddphahiadlaaGreatDoorCFixed
import Derived.Deep.RegionWith
/- The lengths of kind 2 by the document: plain reckoning. -/
namespace Go.Proofs.YtecddphahiadlaaGreatDoor
open Go.RowKit
def ordL : List Nat := [16, 17, 18, 0, 8, 7, 9, 6, 10, 5, 11, 4, 12, 3, 13, 2, 14, 1, 15]
def ordN (i : Nat) : Nat := ordL.getD i 0
theorem ordN_lt (i : Nat) (h : i < 19) : ordN i < 19 := by
 have : ∀ i, i < 19 → ordN i < 19 := by decide
 exact this i h
/-- The lengths of the lengths' codes: r more, from number i on. -/
def headGo (s : ByteArray) : Nat → Nat → (Nat → Nat) → St → (Nat → Nat) × St
 | 0, _, f, σ => (f, σ)
 | r + 1, i, f, σ => headGo s r (i + 1) (fun j => if j = ordN i then (numF s 3 σ).1 else f j) (numF s 3 σ).2
theorem headGo_lt (s : ByteArray) : ∀ (r i : Nat) (f : Nat → Nat) (σ : St), (∀ j, f j < 8) → ∀ j, (headGo s r i f σ).1 j < 8
 | 0, _, _, _, h, j => h j
 |
  r + 1, i, f, σ, h, j => by
  simp only [headGo]
  refine headGo_lt s r (i + 1) _ _ (fun j => ?_) j
  split
  · exact numF_lt s 3 σ
  · exact h j
theorem headGo_fit {s : ByteArray} : ∀ (r i : Nat) (f : Nat → Nat) {σ : St}, Fit s σ → Fit s (headGo s r i f σ).2
 | 0, _, _, _, h => h
 | r + 1, i, _, _, h => headGo_fit r (i + 1) _ (h.num 3)
theorem headGo_ge {s : ByteArray} : ∀ (r i : Nat) (f : Nat → Nat) (σ : St), σ.pos ≤ (headGo s r i f σ).2.pos
 | 0, _, _, _ => Nat.le_refl _
 | r + 1, i, _, σ => Nat.le_trans (numF_ge s 3 σ) (headGo_ge r (i + 1) _ _)
theorem symGo_rng {s : ByteArray} {c : Nat → ByteArray} {n : Nat} : ∀ (f : Nat) (cur : ByteArray) (σ : St), -1 ≤ (symGo s c n f cur σ).1 ∧ (symGo s c n f cur σ).1 < (n : Int)
 | 0, _, _ => by show -1 ≤ (-1 : Int) ∧ (-1 : Int) < n; omega
 |
  f + 1, cur, σ => by
  simp only [symGo]
  cases hh : hitF c cur n 0 with
  |
   some i =>
   have := hitF_lt (n := n) n 0 (by omega) i hh
   show -1 ≤ (i : Int) ∧ (i : Int) < n
   omega
  |
   none =>
   simp only
   split
   ·
    split
    · exact symGo_rng f _ _
    · show -1 ≤ (-1 : Int) ∧ (-1 : Int) < n; omega
   · show -1 ≤ (-1 : Int) ∧ (-1 : Int) < n; omega
theorem symF_rng {s : ByteArray} {c : Nat → ByteArray} {n : Nat} (σ : St) : -1 ≤ (symF s c n σ).1 ∧ (symF s c n σ).1 < (n : Int) := symGo_rng _ _ _
/-- One symbol of the lengths: how many, what, and how far the stream is; the flag: nothing to be said again. -/
def lenStep (s : ByteArray) (L : List Int) (k : Int × St) : Bool × Nat × Int × St :=
 if k.1 < 16 then (false, 1, k.1, k.2)
 else if k.1 = 16 then (if L.length = 0 then (true, 0, 0, stopF k.2 1) else (false, (numF s 2 k.2).1 + 3, L.getD (L.length - 1) 0, (numF s 2 k.2).2))
 else if k.1 = 17 then (false, (numF s 3 k.2).1 + 3, 0, (numF s 3 k.2).2)
 else (false, (numF s 7 k.2).1 + 11, 0, (numF s 7 k.2).2)
def lenGo (s : ByteArray) (c : Nat → ByteArray) (n : Nat) : Nat → List Int → St → List Int × St
 | 0, L, σ => (L, σ)
 | f + 1, L, σ => if L.length < n ∧ σ.why = 0 then
  (
   if (lenStep s L (symF s c 19 σ)).1 = true then ([], (lenStep s L (symF s c 19 σ)).2.2.2)
   else lenGo s c n f (L ++ List.replicate (lenStep s L (symF s c 19 σ)).2.1 (lenStep s L (symF s c 19 σ)).2.2.1) (lenStep s L (symF s c 19 σ)).2.2.2)
  else (L, if n < L.length then stopF σ 1 else σ)
/-- The head's lengths as numbers. -/
def headZ (f : Nat → Nat) (i : Nat) : Int := (f i : Int)
/-- Behind the head: a = the lengths of the lengths' codes. -/
def lensTail (s : ByteArray) (n : Nat) (a : (Nat → Nat) × St) : List Int × St :=
 if a.2.why ≠ 0 then ([], a.2) else if ks0 (headZ a.1) 19 ≠ 32768 then ([], stopF a.2 1) else lenGo s (codeT (headZ a.1) 19) n (n + 1) [] a.2
def lensF (s : ByteArray) (n many : Nat) (σ : St) : List Int × St := lensTail s n (headGo s many 0 (fun _ => 0) σ)
theorem Fit.lenStep {s : ByteArray} {L : List Int} {k : Int × St} (h : Fit s k.2) : Fit s (lenStep s L k).2.2.2 := by
 have h2 : Fit s (numF s 2 k.2).2 := Fit.num 2 h
 have h3 : Fit s (numF s 3 k.2).2 := Fit.num 3 h
 have h7 : Fit s (numF s 7 k.2).2 := Fit.num 7 h
 unfold Go.Proofs.YtecddphahiadlaaGreatDoor.lenStep
 generalize numF s 2 k.2 = q2 at h2 ⊢
 generalize numF s 3 k.2 = q3 at h3 ⊢
 generalize numF s 7 k.2 = q7 at h7 ⊢
 split
 · exact h
 ·
  split
  ·
   split
   · exact h.stop 1
   · exact h2
  ·
   split
   · exact h3
   · exact h7
theorem lenStep_ge (s : ByteArray) (L : List Int) (k : Int × St) : k.2.pos ≤ (lenStep s L k).2.2.2.pos := by
 have h2 := numF_ge s 2 k.2
 have h3 := numF_ge s 3 k.2
 have h7 := numF_ge s 7 k.2
 unfold lenStep
 generalize numF s 2 k.2 = q2 at h2 ⊢
 generalize numF s 3 k.2 = q3 at h3 ⊢
 generalize numF s 7 k.2 = q7 at h7 ⊢
 split
 · exact Nat.le_refl _
 ·
  split
  ·
   split
   · rw [stopF_pos]; exact Nat.le_refl _
   · exact h2
  ·
   split
   · exact h3
   · exact h7
theorem lenStep_one {s : ByteArray} {L : List Int} {k : Int × St} (h : (lenStep s L k).1 = false) : 1 ≤ (lenStep s L k).2.1 := by
 unfold lenStep at h ⊢
 split
 · exact Nat.le_refl _
 ·
  next h1 =>
  split
  ·
   next h2 =>
   split
   · next h3 => rw [if_neg h1, if_pos h2, if_pos h3] at h; simp at h
   · show 1 ≤ _ + 3; omega
  ·
   split
   · show 1 ≤ _ + 3; omega
   · show 1 ≤ _ + 11; omega
theorem lenStep_most (s : ByteArray) (L : List Int) (k : Int × St) : (lenStep s L k).2.1 ≤ 138 := by
 have n2 := numF_lt s 2 k.2
 have n3 := numF_lt s 3 k.2
 have n7 := numF_lt s 7 k.2
 unfold lenStep
 split
 · show 1 ≤ 138; omega
 ·
  split
  ·
   split
   · show 0 ≤ 138; omega
   · show _ + 3 ≤ 138; omega
  ·
   split
   · show _ + 3 ≤ 138; omega
   · show _ + 11 ≤ 138; omega
theorem lenGo_fit {s : ByteArray} {c : Nat → ByteArray} {n : Nat} : ∀ (f : Nat) (L : List Int) {σ : St}, Fit s σ → Fit s (lenGo s c n f L σ).2
 | 0, _, _, h => h
 |
  f + 1, L, σ, h => by
  simp only [lenGo]
  split
  ·
   split
   · exact h.symF.lenStep
   · exact lenGo_fit f _ h.symF.lenStep
  ·
   show Fit s (if n < L.length then stopF σ 1 else σ)
   split
   · exact h.stop 1
   · exact h
theorem lenGo_ge {s : ByteArray} {c : Nat → ByteArray} {n : Nat} : ∀ (f : Nat) (L : List Int) (σ : St), σ.pos ≤ (lenGo s c n f L σ).2.pos
 | 0, _, _ => Nat.le_refl _
 |
  f + 1, L, σ => by
  have h1 : σ.pos ≤ (lenStep s L (symF s c 19 σ)).2.2.2.pos := Nat.le_trans (symF_ge σ) (lenStep_ge _ _ _)
  simp only [lenGo]
  split
  ·
   split
   · exact h1
   · exact Nat.le_trans h1 (lenGo_ge f _ _)
  ·
   show σ.pos ≤ (if n < L.length then stopF σ 1 else σ).pos
   split
   · rw [stopF_pos]; exact Nat.le_refl _
   · exact Nat.le_refl _
theorem bitF_alive {s : ByteArray} {σ : St} (h : (bitF s σ).2.why = 0) : σ.why = 0 := by
 by_cases hy : σ.why = 0
 · exact hy
 · rw [bitF_dead hy] at h; exact h
theorem numF_alive {s : ByteArray} : ∀ (n : Nat) {σ : St}, (numF s n σ).2.why = 0 → σ.why = 0
 | 0, _, h => h
 | n + 1, _, h => bitF_alive (numF_alive n h)
theorem rng_append {L : List Int} {x : Int} {m : Nat} (h : ∀ y ∈ L, 0 ≤ y ∧ y ≤ 15) (hx : 0 ≤ x ∧ x ≤ 15) : ∀ y ∈ L ++ List.replicate m x, 0 ≤ y ∧ y ≤ 15 := by
 intro y hy
 rcases List.mem_append.1 hy with hy | hy
 · exact h y hy
 · rw [List.eq_of_mem_replicate hy]; exact hx
theorem lenStep_alive {s : ByteArray} {L : List Int} {k : Int × St} (h : (lenStep s L k).2.2.2.why = 0) : k.2.why = 0 := by
 have h2 := numF_alive (s := s) 2 (σ := k.2)
 have h3 := numF_alive (s := s) 3 (σ := k.2)
 have h7 := numF_alive (s := s) 7 (σ := k.2)
 unfold lenStep at h
 generalize numF s 2 k.2 = q2 at h2 h
 generalize numF s 3 k.2 = q3 at h3 h
 generalize numF s 7 k.2 = q7 at h7 h
 split at h
 · exact h
 ·
  split at h
  ·
   split at h
   · exact absurd h (stopF_why (by omega))
   · exact h2 h
  ·
   split at h
   · exact h3 h
   · exact h7 h
theorem lenStep_rng {s : ByteArray} {L : List Int} {k : Int × St} (hk : 0 ≤ k.1) (hL : ∀ y ∈ L, 0 ≤ y ∧ y ≤ 15) (h1 : (lenStep s L k).1 = false) : 0 ≤ (lenStep s L k).2.2.1 ∧ (lenStep s L k).2.2.1 ≤ 15 := by
 unfold lenStep at h1 ⊢
 by_cases c1 : k.1 < 16
 ·
  rw [if_pos c1]
  show 0 ≤ k.1 ∧ k.1 ≤ 15
  omega
 ·
  rw [if_neg c1] at h1 ⊢
  by_cases c2 : k.1 = 16
  ·
   rw [if_pos c2] at h1 ⊢
   by_cases c3 : L.length = 0
   · rw [if_pos c3] at h1; simp at h1
   ·
    rw [if_neg c3]
    show 0 ≤ L.getD (L.length - 1) 0 ∧ L.getD (L.length - 1) 0 ≤ 15
    have e : L.getD (L.length - 1) 0 = L[L.length - 1]'(by omega) := by
     rw [List.getD_eq_getElem?_getD, List.getElem?_eq_getElem (by omega)]; rfl
    rw [e]
    exact hL _ (List.getElem_mem _)
  ·
   rw [if_neg c2]
   split
   · show (0 : Int) ≤ 0 ∧ (0 : Int) ≤ 15; omega
   · show (0 : Int) ≤ 0 ∧ (0 : Int) ≤ 15; omega
theorem lenGo_alive {s : ByteArray} {c : Nat → ByteArray} {n : Nat} : ∀ (f : Nat) {L : List Int} {σ : St}, (lenGo s c n f L σ).2.why = 0 → σ.why = 0
 | 0, _, _, h => h
 |
  f + 1, L, σ, h => by
  simp only [lenGo] at h
  split at h
  · next hc => exact hc.2
  ·
   by_cases hn : n < L.length
   ·
    have h' : (if n < L.length then stopF σ 1 else σ).why = 0 := h
    rw [if_pos hn] at h'
    exact absurd h' (stopF_why (by omega))
   ·
    have h' : (if n < L.length then stopF σ 1 else σ).why = 0 := h
    rw [if_neg hn] at h'
    exact h'
/-- What comes is of 0 to 15, and so many, as long as nothing is wrong. -/
theorem lenGo_rng {s : ByteArray} {c : Nat → ByteArray} {n : Nat} (hc : ∀ i, i < 19 → (c i).size ≤ 15) : ∀ (f : Nat) (L : List Int) (σ : St), n + 1 ≤ L.length + f → (f = 0 → False) → (∀ y ∈ L, 0 ≤ y ∧ y ≤ 15) → (lenGo s c n f L σ).2.why = 0 → (∀ y ∈ (lenGo s c n f L σ).1, 0 ≤ y ∧ y ≤ 15) ∧ (lenGo s c n f L σ).1.length = n
 | 0, _, _, _, h0, _, _ => (h0 rfl).elim
 |
  f + 1, L, σ, hf, _, hL, hw => by
  have ha : σ.why = 0 := lenGo_alive (f + 1) hw
  simp only [lenGo] at hw ⊢
  by_cases h1 : L.length < n ∧ σ.why = 0
  ·
   rw [if_pos h1] at hw ⊢
   by_cases h2 : (lenStep s L (symF s c 19 σ)).1 = true
   ·
    rw [if_pos h2] at hw
    unfold lenStep at hw h2
    split at h2
    · simp at h2
    ·
     next c1 =>
     split at h2
     ·
      next c2 =>
      split at h2
      ·
       next c3 =>
       rw [if_neg c1, if_pos c2, if_pos c3] at hw
       exact absurd hw (stopF_why (by omega))
      · simp at h2
     ·
      split at h2
      · simp at h2
      · simp at h2
   ·
    rw [if_neg h2] at hw ⊢
    have h3 : (lenStep s L (symF s c 19 σ)).1 = false := by
     cases h : (lenStep s L (symF s c 19 σ)).1
     · rfl
     · exact absurd h h2
    have h4 := lenStep_one h3
    have h5 := lenStep_alive (lenGo_alive f hw)
    obtain ⟨k, hk, hk1⟩ := symF_fst hc σ h5
    have h6 := lenStep_rng (s := s) (L := L) (k := symF s c 19 σ) (by rw [hk1]; omega) hL h3
    refine lenGo_rng hc f _ _ (by rw [List.length_append, List.length_replicate]; omega) (fun e => ?_) (rng_append hL h6) hw
    omega
  ·
   have h2 : ¬ L.length < n := fun h => h1 ⟨h, ha⟩
   rw [if_neg h1] at hw ⊢
   have hw' : (if n < L.length then stopF σ 1 else σ).why = 0 := hw
   by_cases hn : n < L.length
   ·
    rw [if_pos hn] at hw'
    exact absurd hw' (stopF_why (by omega))
   · exact ⟨hL, by show L.length = n; omega⟩
/- Memory while the document's lengths are read; its order. -/
theorem own_of_block {w w' : World} {B : Nat} {e : TypeId} {v : Value} {n : Nat} {xs : List Value} (h : w.ownsRow B e 1 v n xs) (hb : ∀ g, v.ownBlock = some g → w'.heap[g]? = w.heap[g]?) : w'.ownsRow B e 1 v n xs := by
 obtain ⟨h1, h2⟩ := h
 refine ⟨h1, ?_⟩
 rcases h2 with h2 | ⟨g, cap, cur, hv, hg, hh, r⟩
 · exact Or.inl h2
 · exact Or.inr ⟨g, cap, cur, hv, hg, (hb g (by rw [hv]; rfl)).trans hh, r⟩
theorem Str.blocks {B : Nat} {w w' : World} {gx : Nat} {s : ByteArray} {σ : St} {vt : Value} (h : Str B w gx s σ vt) (e1 : w'.heap[gx]? = w.heap[gx]?) (e2 : ∀ g, vt.ownBlock = some g → w'.heap[g]? = w.heap[g]?) : Str B w' gx s σ vt :=
 ⟨h.le, h.row.of_block e1, own_of_block h.own e2, h.ne⟩
theorem Str.later {B : Nat} {w w' : World} {gx : Nat} {s : ByteArray} {σ : St} {vt : Value} (h : Str B w gx s σ vt) (hb : Below w.heap.size w w') : Str B w' gx s σ vt :=
 h.blocks (hb.block gx h.row.lt) (fun g hg => hb.block g (h.own.lt g hg).2)
theorem Kp.later {w w1 w2 : World} {gx : Nat} {vt : Value} (h : Kp w w1 gx vt) (hb : Below w1.heap.size w1 w2) : Kp w w2 gx vt :=
 ⟨hb.os.trans h.os, hb.tape.trans h.tape, hb.output.trans h.output, Nat.le_trans h.size hb.size, fun b hw hx hv => (hb.block b (Nat.lt_of_lt_of_le hw h.size)).trans (h.block b hw hx hv)⟩
theorem Str.vlt {B : Nat} {w : World} {gx : Nat} {s : ByteArray} {σ : St} {vt : Value} (h : Str B w gx s σ vt) (g : Nat) (hg : vt.ownBlock = some g) : g < w.heap.size := (h.own.lt g hg).2
theorem order_any (w : World) : Calls Tryz.prog 130 #[] w fun e w' => e = .returned (.slice (some ⟨w.heap.size, 0, none⟩) 19 19) ∧ w'.rowIs w.heap.size 3 19 (fun i => .int .i64 (ordN i : Nat)) ∧ Below w.heap.size w w' := by
 go_enter Tryz.func130, Tryz.ntmps130
 go_wp2
 go_ret
 refine ⟨rfl, ?_, (Below.refl _ _).alloc (Nat.le_refl _) _⟩
 refine World.rowIs_alloc w _ 3 _ (fun i hi => ?_)
 have hi' : i < 19 := hi
 match i, hi' with
 | 0, _ => rfl
 | 1, _ => rfl
 | 2, _ => rfl
 | 3, _ => rfl
 | 4, _ => rfl
 | 5, _ => rfl
 | 6, _ => rfl
 | 7, _ => rfl
 | 8, _ => rfl
 | 9, _ => rfl
 | 10, _ => rfl
 | 11, _ => rfl
 | 12, _ => rfl
 | 13, _ => rfl
 | 14, _ => rfl
 | 15, _ => rfl
 | 16, _ => rfl
 | 17, _ => rfl
 | 18, _ => rfl
 | i + 19, h => exact absurd h (by omega)
/-- While the head is read: r lengths are still to come, from number i on. -/
structure HR (B : Nat) (w wr : World) (gx : Nat) (s : ByteArray) (vt : Value) (gw go r i : Nat) (f : Nat → Nat) (σ : St) (goal : (Nat → Nat) × St) : Prop where
 str : Str B wr gx s σ vt
 kp : Kp w wr gx vt
 fit : Fit s σ
 ow : wr.rowIs gw 3 19 (fun j => .int .i64 (f j : Nat))
 ord : wr.rowIs go 3 19 (fun j => .int .i64 (ordN j : Nat))
 eq : headGo s r i f σ = goal
/-- Blocks that are not the stream's. -/
structure Off (w : World) (gx : Nat) (vt : Value) (g : Nat) : Prop where
 new : w.heap.size ≤ g
 nx : g ≠ gx
 nv : vt.ownBlock ≠ some g
theorem Str.off {B : Nat} {w : World} {gx : Nat} {s : ByteArray} {σ : St} {vt : Value} (h : Str B w gx s σ vt) {g : Nat} (hg : w.heap.size ≤ g) : Off w gx vt g :=
 ⟨hg, fun e => by have := h.row.lt; omega, fun e => by have := h.vlt g e; omega⟩
theorem hr_step {B : Nat} {w wr w2 : World} {gx : Nat} {s : ByteArray} {vt : Value} {gw go r i : Nat} {f : Nat → Nat} {σ : St} {goal : (Nat → Nat) × St} (h : HR B w wr gx s vt gw go (r + 1) i f σ goal) (aw : Off w gx vt gw) (ao : Off w gx vt go) (hne : go ≠ gw)
 (h2 : Str B w2 gx s (numF s 3 σ).2 vt) (k2 : Kp wr w2 gx vt) :
 w2.rowIs gw 3 19 (fun j => .int .i64 (f j : Nat)) ∧ w2.rowIs go 3 19 (fun j => .int .i64 (ordN j : Nat)) ∧
 HR B w (w2.setCell ⟨gw, ordN i, none⟩ (.int .i64 ((numF s 3 σ).1 : Nat))) gx s vt gw go r (i + 1) (fun j => if j = ordN i then (numF s 3 σ).1 else f j) (numF s 3 σ).2 goal := by
 have r1 := h.ow.of_block (k2.block gw h.ow.lt aw.nx aw.nv)
 have r2 := h.ord.of_block (k2.block go h.ord.lt ao.nx ao.nv)
 have k3 := h.kp.trans k2
 refine ⟨r1, r2, h2.blocks (Below.heap_setCell _ _ _ _ (fun e => aw.nx e.symm)) (fun g hg => Below.heap_setCell _ _ _ _ (fun e => ?_)), ⟨k3.os, k3.tape, k3.output, by simp [World.setCell]; exact k3.size, fun b hb hx hv => ?_⟩, h.fit.num 3, ?_, ?_, h.eq⟩
 · subst e; exact aw.nv hg
 ·
  rw [Below.heap_setCell _ _ _ _ (fun e => by subst e; have := aw.new; omega)]
  exact k3.block b hb hx hv
 · exact (r1.set (ordN i) _).congr (fun j _ => by by_cases e : j = ordN i <;> simp [e])
 · exact r2.of_block (Below.heap_setCell _ _ _ _ hne)
def intVals (L : List Int) : List Value := L.map fun x => Value.int .i64 x
theorem intVals_snoc (L : List Int) (x : Int) : intVals (L ++ [x]) = intVals L ++ [.int .i64 x] := by simp [intVals]
theorem intVals_get (L : List Int) (j : Nat) (hj : j < L.length) : (intVals L)[j]? = some (.int .i64 (L.getD j 0)) := by
 unfold intVals
 rw [List.getElem?_map, List.getElem?_eq_getElem hj]
 simp [List.getD_eq_getElem?_getD, List.getElem?_eq_getElem hj]
/-- While the lengths are read: those that are there. -/
structure ER (B : Nat) (w wr : World) (gx : Nat) (s : ByteArray) (vt : Value) (Bl gc : Nat) (c : Nat → ByteArray) (v : Value) (L : List Int) (σ : St) : Prop where
 str : Str B wr gx s σ vt
 kp : Kp w wr gx vt
 fit : Fit s σ
 own : wr.ownsRow Bl 3 1 v L.length (intVals L)
 row : wr.rowIs gc 9 19 (fun i => .string (c i))
 bl : Bl ≤ wr.heap.size
/-- The block numbers lie so. -/
structure Lie (w : World) (gx : Nat) (vt : Value) (Bl gc : Nat) : Prop where
 le : w.heap.size ≤ Bl
 c : Off w gx vt gc
 cl : gc < Bl
 x : gx < Bl
 v : ∀ g, vt.ownBlock = some g → g < Bl
theorem er_call {B : Nat} {w wr w2 : World} {gx : Nat} {s : ByteArray} {vt : Value} {Bl gc : Nat} {c : Nat → ByteArray} {v : Value} {L : List Int} {σ σ' : St} (h : ER B w wr gx s vt Bl gc c v L σ) (li : Lie w gx vt Bl gc) (h2 : Str B w2 gx s σ' vt) (k2 : Kp wr w2 gx vt) (hf : Fit s σ') :
 ER B w w2 gx s vt Bl gc c v L σ' := by
 refine ⟨h2, h.kp.trans k2, hf, own_of_block h.own (fun g hg => ?_), h.row.of_block (k2.block gc h.row.lt li.c.nx li.c.nv), Nat.le_trans h.bl k2.size⟩
 have hl := h.own.lt g hg
 exact k2.block g hl.2 (fun e => by have := li.x; omega) (fun e => by have := li.v g e; omega)
theorem er_more {B : Nat} {w wr w2 : World} {gx : Nat} {s : ByteArray} {vt : Value} {Bl gc : Nat} {c : Nat → ByteArray} {v : Value} {L : List Int} {σ : St} {x : Int} {n g' cap' : Nat} {o : Obj} (h : ER B w wr gx s vt Bl gc c v L σ) (li : Lie w gx vt Bl gc) (hn : n = L.length)
 (ho : w2.ownsRow Bl 3 1 (.slice (some ⟨g', 0, none⟩) (n + 1) cap') (n + 1) (intVals L ++ [.int .i64 x])) (hg : (wr.alloc o).grownBy w2 (some g')) :
 ER B w w2 gx s vt Bl gc c (.slice (some ⟨g', 0, none⟩) (n + 1) cap') (L ++ [x]) σ := by
 subst hn
 have hl := (ho.lt g' rfl).1
 have hb : Below Bl wr w2 := ((Below.refl Bl wr).alloc h.bl _).grown hg (by have := h.bl; simp; omega) (fun j e => by obtain rfl := Option.some.inj e; exact hl)
 refine ⟨h.str.blocks (hb.block gx li.x) (fun g hg => hb.block g (li.v g hg)), ⟨hb.os.trans h.kp.os, hb.tape.trans h.kp.tape, hb.output.trans h.kp.output, Nat.le_trans h.kp.size hb.size, fun b hw hx hv => (hb.block b (Nat.lt_of_lt_of_le hw li.le)).trans (h.kp.block b hw hx hv)⟩, h.fit, ?_, h.row.of_block (hb.block gc li.cl), Nat.le_trans h.bl hb.size⟩
 rw [intVals_snoc, List.length_append]
 exact ho
theorem er_form {B : Nat} {w wr : World} {gx : Nat} {s : ByteArray} {vt : Value} {Bl gc : Nat} {c : Nat → ByteArray} {v : Value} {L : List Int} {σ : St} (h : ER B w wr gx s vt Bl gc c v L σ) : ∃ ao cap, v = .slice ao L.length cap := by
 obtain ⟨_, q⟩ := h.own
 rcases q with ⟨q, q0⟩ | ⟨g, cap, cur, q, _⟩
 · exact ⟨none, 0, by rw [q, q0]⟩
 · exact ⟨_, _, q⟩
theorem er_form1 {B : Nat} {w wr : World} {gx : Nat} {s : ByteArray} {vt : Value} {Bl gc : Nat} {c : Nat → ByteArray} {v : Value} {L : List Int} {σ : St} (h : ER B w wr gx s vt Bl gc c v L σ) (h1 : 1 ≤ L.length) :
 ∃ g cap, v = .slice (some ⟨g, 0, none⟩) L.length cap ∧ Bl ≤ g ∧ L.length ≤ cap ∧ IntsAt wr g 0 L.length (fun i => L.getD i 0) := by
 have hq := h.own
 obtain ⟨_, q⟩ := h.own
 rcases q with ⟨_, q0⟩ | ⟨g, cap, cur, q, hb, hh, hc, _⟩
 · omega
 ·
  refine ⟨g, cap, q, hb, hc, fun i hi => ?_, (hq.lt g (by rw [q]; rfl)).2⟩
  rw [Nat.zero_add, ← addr_add0]
  exact hq.cells (g := g) (by rw [q]; rfl) i _ (intVals_get L i hi)
theorem len_next {s : ByteArray} {c : Nat → ByteArray} {n f : Nat} {L : List Int} {σ : St} {goal : List Int × St} {q : Int × St} {T : Nat} {X : Int} {σ3 : St} (heq : lenGo s c n f L σ = goal) (hf : n - L.length + 1 ≤ f) (hlt : L.length < n) (hy : σ.why = 0)
 (hq : symF s c 19 σ = q) (hst : lenStep s L q = (false, T, X, σ3)) : 1 ≤ f ∧ n - (L ++ List.replicate T X).length + 1 ≤ f - 1 ∧ (L ++ List.replicate T X).length ≤ n + 138 ∧ lenGo s c n (f - 1) (L ++ List.replicate T X) σ3 = goal := by
 obtain ⟨f', rfl⟩ : ∃ f', f = f' + 1 := ⟨f - 1, by omega⟩
 have h1 := lenStep_most s L q
 have h2 := lenStep_one (s := s) (L := L) (k := q) (by rw [hst])
 rw [hst] at h1 h2
 simp only at h1 h2
 simp only [lenGo] at heq
 rw [if_pos ⟨hlt, hy⟩, hq, hst, if_neg (by simp)] at heq
 rw [List.length_append, List.length_replicate]
 exact ⟨by omega, by omega, by omega, heq⟩
theorem len_stop {s : ByteArray} {c : Nat → ByteArray} {n f : Nat} {L : List Int} {σ : St} {goal : List Int × St} {q : Int × St} {σ3 : St} (heq : lenGo s c n f L σ = goal) (hf : n - L.length + 1 ≤ f) (hlt : L.length < n) (hy : σ.why = 0)
 (hq : symF s c 19 σ = q) (hst : lenStep s L q = (true, 0, 0, σ3)) : goal = ([], σ3) := by
 obtain ⟨f', rfl⟩ : ∃ f', f = f' + 1 := ⟨f - 1, by omega⟩
 simp only [lenGo] at heq
 rw [if_pos ⟨hlt, hy⟩, hq, hst, if_pos rfl] at heq
 exact heq.symm
theorem len_end {s : ByteArray} {c : Nat → ByteArray} {n f : Nat} {L : List Int} {σ : St} {goal : List Int × St} (heq : lenGo s c n f L σ = goal) (hf : 1 ≤ f) (h : ¬ (L.length < n ∧ σ.why = 0)) : goal = (L, if n < L.length then stopF σ 1 else σ) := by
 obtain ⟨f', rfl⟩ : ∃ f', f = f' + 1 := ⟨f - 1, by omega⟩
 simp only [lenGo] at heq
 rw [if_neg h] at heq
 exact heq.symm
theorem codeT_most (z : Nat → Int) (n i : Nat) (hz : 0 ≤ z i ∧ z i ≤ 15) : (codeT z n i).size ≤ 15 := by
 unfold codeT
 split
 · exact Nat.zero_le _
 · rw [bitsB_size]; omega
/-- What lengths gives. -/
def LensPost (B : Nat) (w : World) (gx : Nat) (s : ByteArray) (vt : Value) (n : Nat) (p : List Int × St) (e : Ending) (w' : World) : Prop :=
 ∃ v, e = .returned v ∧ Str B w' gx s p.2 vt ∧ Kp w w' gx vt ∧ (p.2.why = 0 → ∃ g cap, v = .slice (some ⟨g, 0, none⟩) n cap ∧ w.heap.size ≤ g ∧ n ≤ cap ∧ IntsAt w' g 0 n (fun i => p.1.getD i 0))
/- The document's lengths: the walk. -/
set_option maxRecDepth 4000 in
set_option maxHeartbeats 1000000 in
theorem lengths_any (B gx n many : Nat) (s : ByteArray) (σ : St) (vt : Value) (w : World) (h : Str B w gx s σ vt) (hB : B ≤ w.heap.size) (hs : s.size ≤ 140737488400000) (hf : Fit s σ) (hn1 : 1 ≤ n) (hn : n ≤ 400) (hm : many ≤ 19) :
 Calls Tryz.prog 113 #[.pointer (some ⟨gx, 0, none⟩), .int .i64 (n : Int), .int .i64 (many : Int)] w fun e w' => LensPost B w gx s vt n (lensF s n many σ) e w' := by
 have hmk : ∀ w : World, (Instr.makeSlice 61 (.int .i64 19) (.int .i64 19)).run Tryz.prog w = .ok (.slice (some ⟨w.heap.size, 0, none⟩) 19 19) (w.alloc (.cells (madeCells #[.int .i64 0] 19) 3)) :=
  run_make_row' (P := Tryz.prog) 61 3 (.int .i64 0) 8 Tryz.underlying61 Tryz.info3 rfl .i64 .i64 19 (by omega) (by omega)
 go_enter Tryz.func113, Tryz.ntmps113
 go_wp2_with fail
 refine (order_any _).mono ?_
 rintro e w1 ⟨rfl, ho1, hb1⟩
 have hsz : (w.alloc (.cells (madeCells #[.int .i64 0] 19) 3)).heap.size = w.heap.size + 1 := by simp
 rw [hsz] at ho1 hb1 ⊢
 have A1 : Below w.heap.size w w1 := ((Below.refl _ _).alloc (Nat.le_refl _) _).trans (hb1.mono (by omega))
 have aw : Off w gx vt w.heap.size := h.off (Nat.le_refl _)
 have ao : Off w gx vt (w.heap.size + 1) := h.off (by omega)
 have R0 : HR B w w1 gx s vt w.heap.size (w.heap.size + 1) many 0 (fun _ => 0) σ (headGo s many 0 (fun _ => 0) σ) :=
  ⟨h.later A1, (Kp.refl w gx vt).later A1, hf, (World.rowIs_made w (.int .i64 0) 19 3).of_block (hb1.block _ (by omega)), ho1, rfl⟩
 have HG : Hid (lensF s n many σ = lensTail s n (headGo s many 0 (fun _ => 0) σ)) := rfl
 have HGL : Hid (∀ j, (headGo s many 0 (fun _ => 0) σ).1 j < 8) := headGo_lt s many 0 _ σ (fun _ => by omega)
 have HB : Hid (B ≤ w.heap.size) := hB
 have HS : Hid (Str B w gx s σ vt) := h
 generalize headGo s many 0 (fun _ => 0) σ = goal at R0 HG HGL
 obtain ⟨gw, hgw⟩ : ∃ gw, gw = w.heap.size := ⟨_, rfl⟩
 rw [← hgw] at aw ao R0 ⊢
 have HGW : Hid (gw = w.heap.size) := hgw
 clear ho1 hb1 hsz A1 hmk h hB hf hgw
 go_wp2_with fail
 go_loopw [9] (fun i wr => ∃ (k : Nat) (f : Nat → Nat) (σ1 : St), k ≤ many ∧ i = .int .i64 (k : Nat) ∧ HR B w wr gx s vt gw (gw + 1) (many - k) k f σ1 goal) (fun i _ => many - (intOf i).toNat)
 case atStart => exact ⟨0, _, σ, by omega, rfl, R0⟩
 case round =>
  clear R0
  obtain ⟨k, f, σ1, hk, rfl, hrel⟩ := hrel
  by_cases hlt : k < many
  ·
   obtain ⟨r, hr⟩ : ∃ r, many - k = r + 1 := ⟨many - k - 1, by omega⟩
   rw [hr] at hrel
   have hnl := numF_lt s 3 σ1
   have hol := ordN_lt k (by omega)
   have co := hrel.ord.cell (show k < 19 by omega)
   have i1 : (k : Int) < 19 := by omega
   have i2 : (ordN k : Int) < 19 := by omega
   have hst : Str B wr.drew gx s σ1 vt := hrel.str.drewN 1
   have hfit := hrel.fit
   have HR1 : Hid (∀ w2, Str B w2 gx s (numF s 3 σ1).2 vt → Kp wr.drew w2 gx vt → _) := fun w2 a b => hr_step (w2 := w2) hrel aw ao (by omega) a ⟨b.os, b.tape, b.output, b.size, b.block⟩
   have HRR : Hid (r = many - (k + 1)) := by show _ = _; omega
   clear hr hrel aw ao
   go_wp2_with fail
   go_region_with (go_at_call 85; refine (number_any B gx 3 s σ1 vt _ hst hs hfit.pos (by omega)).mono ?_; rintro e w2 ⟨rfl, h2, k2⟩; obtain ⟨q1, q2, q3⟩ := HR1.out w2 h2 k2; have cw := q1.cell (i := ordN k) hol; have fw := q1.frozen (ordN k); have co2 := q2.cell (show k < 19 by omega); clear q1 q2 h2 k2)
   all_goals
    go_wp2
    go_roundw
    case rel => exact ⟨k + 1, _, _, by omega, by go_num, by rw [← HRR.out]; exact q3⟩
    case measure => simp [intOf]; omega
  ·
   obtain rfl : k = many := by omega
   rw [Nat.sub_self] at hrel
   have heq := hrel.eq
   simp only [headGo] at heq
   have hgl : ∀ j, f j < 8 := by have e := HGL.out; rw [← heq] at e; exact e
   have HT : Hid (lensF s n k σ = lensTail s n (f, σ1)) := by show _ = _; rw [HG.out, ← heq]
   have hI : IntsAt wr gw 0 19 (headZ f) := ⟨fun i hi => by rw [Nat.zero_add]; exact hrel.ow.cell hi, hrel.ow.lt⟩
   have hrg : ∀ i, i < 19 → 0 ≤ headZ f i ∧ headZ f i ≤ 15 := fun i _ => by have := hgl i; unfold headZ; omega
   have hks := ks0_le (headZ f) 19
   have hstr := hrel.str
   have hkp := hrel.kp
   have hfit := hrel.fit
   clear heq hrel HG HGL ao hlt hk
   go_wp2_with fail
   refine (rleft_any gw 0 19 19 (headZ f) _ hI (by omega) hrg).mono ?_
   rintro e w2 ⟨rfl, rfl⟩
   generalize hKK : ks0 (headZ f) 19 = K at hks HT ⊢
   have d3 := hstr.c3
   have lhs : Hid (lensTail s n (f, σ1) = if σ1.why ≠ 0 then ([], σ1) else if K ≠ 32768 then ([], stopF σ1 1) else lenGo s (codeT (headZ f) 19) n (n + 1) [] σ1) := by
    show _ = _
    rw [← hKK]; rfl
   by_cases hy : σ1.why = 0
   ·
    have e3 : ((σ1.why : Int) == 0) = true := by rw [beq_iff_eq]; omega
    by_cases hK : K = 32768
    ·
     have e1 : ((32768 : Int) - (K : Int) != 0) = false := by rw [bne_eq_false_iff_eq]; omega
     have e3' : ((σ1.why : Int) != 0) = false := by rw [bne_eq_false_iff_eq]; omega
     have HF : Hid (lensF s n k σ = lenGo s (codeT (headZ f) 19) n (n + 1) [] σ1) := by
      show _ = _
      rw [HT.out, lhs.out, if_neg (by omega), if_neg (by omega)]
     have hkr : kr (cntN (headZ f) 19) 15 ≤ 32768 := by rw [kr_ks0 _ _ hrg, hKK]; omega
     have hcs : ∀ i, i < 19 → (codeT (headZ f) 19 i).size ≤ 15 := fun i hi => codeT_most _ _ _ (hrg i hi)
     clear hK hy HT lhs hKK
     go_wp2_with fail
     refine (rcodes_any gw 0 19 19 (headZ f) _ hI (by omega) hrg hkr).mono ?_
     rintro e w3 ⟨rfl, hr3, hb3⟩
     have hBl := hr3.lt
     have hst := HS.out
     have hs2 := hkp.size
     have li : Lie w gx vt w3.heap.size w2.heap.size := ⟨Nat.le_trans hs2 hb3.size, hst.off hs2, hBl, Nat.lt_of_lt_of_le hstr.row.lt hb3.size, fun g hg => Nat.lt_of_lt_of_le (hstr.vlt g hg) hb3.size⟩
     have E0 : ER B w w3 gx s vt w3.heap.size w2.heap.size (codeT (headZ f) 19) (.slice none 0 0) [] σ1 := ⟨hstr.later hb3, hkp.later hb3, hfit, World.ownsRow_nil _ _ _ _, hr3, Nat.le_refl _⟩
     generalize codeT (headZ f) 19 = c at HF hcs hr3 E0
     have HF' : Hid (lenGo s c n (n + 1) [] σ1 = (lensF s n k σ)) := by show _ = _; rw [HF.out]
     generalize w3.heap.size = Bl at li E0
     generalize w2.heap.size = gc at li E0 hr3 ⊢
     clear hr3 hb3 hBl hst hs2 hkr hrg hI hstr hkp hfit HS HB HGW aw d3 e1 e3 e3' hks HF
     go_wp2_with fail
     go_loopg [12, 13, 14, 15] (n + 1) (fun fu v _ _ _ wr => ∃ (L : List Int) (σ2 : St), n - L.length + 1 ≤ fu ∧ L.length ≤ n + 138 ∧ lenGo s c n fu L σ2 = (lensF s n k σ) ∧ ER B w wr gx s vt Bl gc c v L σ2)
     case atStart => exact ⟨[], σ1, by simp, by simp, HF'.out, E0⟩
     case round =>
      clear E0 HF'
      obtain ⟨L, σ2, hfu, hmost, heq, hrel⟩ := hrel
      have d3 := hrel.str.c3
      obtain ⟨ao, cp, hv⟩ := er_form hrel
      obtain ⟨N, hN⟩ : ∃ N, N = L.length := ⟨_, rfl⟩
      have hmN : N ≤ n + 138 := by omega
      rw [← hN] at hv
      subst hv
      have HN : Hid (N = L.length) := hN
      by_cases hgo : L.length < n ∧ σ2.why = 0
      ·
       have e3 : ((σ2.why : Int) == 0) = true := by rw [beq_iff_eq]; omega
       have hNn : N < n := by omega
       have dN : decide ((N : Int) < (n : Int)) = true := by rw [decide_eq_true_iff]; omega
       clear hN
       go_wp2_with fail
       refine (symbol_any B gx gc 19 19 s c σ2 vt _ hrel.str hs hrel.fit hrel.row li.c.nx li.c.nv (by omega) hcs).mono ?_
       rintro e w4 ⟨rfl, h4, k4⟩
       have E3 := er_call hrel li h4 k4 hrel.fit.symF
       have hrn := symF_rng (s := s) (c := c) (n := 19) σ2
       have HX : Hid (∀ (T : Nat) (X : Int) (σ4 : St), lenStep s L (symF s c 19 σ2) = (false, T, X, σ4) → _) := fun T X σ4 hst => len_next heq hfu hgo.1 hgo.2 rfl hst
       have HY : Hid (∀ (σ4 : St), lenStep s L (symF s c 19 σ2) = (true, 0, 0, σ4) → _) := fun σ4 hst => len_stop heq hfu hgo.1 hgo.2 rfl hst
       clear h4 k4 hrel heq hgo d3 e3 dN
       generalize symF s c 19 σ2 = q at E3 hrn HX HY ⊢
       obtain ⟨kk, σ3⟩ := q
       simp only at E3 hrn HX HY ⊢
       by_cases c1 : kk < 16
       ·
        have d1 : decide (kk < 16) = true := by rw [decide_eq_true_iff]; exact c1
        obtain ⟨T, hT⟩ : ∃ T : Nat, T = 1 := ⟨_, rfl⟩
        obtain ⟨hf1, x1, x2, x3⟩ := HX.out T kk σ3 (by rw [hT]; unfold lenStep; rw [if_pos c1])
        have HNX : Hid (∀ v wq, ER B w wq gx s vt Bl gc c v (L ++ List.replicate T kk) σ3 → ∃ (L : List Int) (σ2 : St), n - L.length + 1 ≤ gk - 1 ∧ L.length ≤ n + 138 ∧ lenGo s c n (gk - 1) L σ2 = (lensF s n k σ) ∧ ER B w wq gx s vt Bl gc c v L σ2) := fun v wq hh => ⟨_, _, x1, x2, x3, hh⟩
        have HTT : Hid (T = 1) := hT
        have hTb : T ≤ 138 := by omega
        clear x1 x2 x3 HX HY hT
        clear c1
        go_wp2_with fail
        go_loopw [12, 15] (fun v i wq => ∃ (t : Nat) (L2 : List Int), t ≤ T ∧ i = .int .i64 (t : Nat) ∧ L2 = L ++ List.replicate (T - t) kk ∧ ER B w wq gx s vt Bl gc c v L2 σ3) (fun _ i _ => (intOf i).toNat)
        case atStart => exact ⟨T, L, Nat.le_refl _, by have := HTT.out; go_num, by rw [Nat.sub_self]; simp, E3⟩
        case round =>
         clear E3
         obtain ⟨t, L2, ht, rfl, hL2, hrel⟩ := hrel
         have hlen : L2.length = L.length + (T - t) := by rw [hL2, List.length_append, List.length_replicate]
         obtain ⟨N2, hN2⟩ : ∃ N2, N2 = L2.length := ⟨_, rfl⟩
         have hown := hrel.own
         have hbl := hrel.bl
         have hNL := HN.out
         have hN2b : N2 ≤ n + 276 := by omega
         rw [← hN2] at hown
         by_cases ht0 : 0 < t
         ·
          have HM : Hid (_) := fun (g' cap' : Nat) (w2 : World) (o : Obj) => er_more (w2 := w2) (g' := g') (cap' := cap') (o := o) (x := kk) hrel li hN2
          have HL : Hid (L2 ++ [kk] = L ++ List.replicate (T - (t - 1)) kk) := by
           show _ = _
           rw [hL2, show T - (t - 1) = (T - t) + 1 from by omega, List.replicate_succ', List.append_assoc]
          clear hN2 hL2 hrel hlen hNL
          go_wp2_with (first | (at_builtin; refine wpList_append1s wr rfl (.tmp 99) (.tmp 101) 61 rfl Bl 3 (.int .i64 0) 8 Tryz.underlying61 Tryz.info3 rfl u12 N2 _ (.int .i64 kk) rfl rfl wr.heap.size rfl rfl hown hbl (by unfold maxLen; omega) (by omega) ?_) | fail)
          intro g' cap' w2 ho hd hg
          have R := HM.out g' cap' w2 _ ho hg
          clear ho hd hg HM hown
          go_wp2
          go_roundw
          case rel => exact ⟨t - 1, _, by omega, by go_num, HL.out, R⟩
          case measure => simp [intOf]; omega
         ·
          obtain rfl : t = 0 := by omega
          have R := HNX.out u12 wr (by rw [Nat.sub_zero] at hL2; rw [← hL2]; exact hrel)
          clear hrel hL2 hN2 hown HNX hNL hlen
          go_wp2
          go_roundg (gk - 1)
          case measure => omega
          case rel => exact R
       ·
        have d1 : decide (kk < 16) = false := by rw [decide_eq_false_iff_not]; exact c1
        have HC1 : Hid (¬ kk < 16) := c1
        by_cases c2 : kk = 16
        ·
         have d2 : (kk == 16) = true := by rw [beq_iff_eq]; exact c2
         have HC2 : Hid (kk = 16) := c2
         by_cases c3 : N = 0
         ·
          have HE := HY.out (stopF σ3 1) (by unfold lenStep; rw [if_neg (by have := HC1.out; omega), if_pos HC2.out, if_pos (by rw [← HN.out]; exact c3)])
          clear HX HY
          subst c3
          go_wp2_with fail
          refine (stops_any B gx 1 s σ3 vt _ E3.str).mono ?_
          rintro e w5 ⟨rfl, h5, k5⟩
          have P : LensPost B w gx s vt n (lensF s n k σ) (.returned (.slice none 0 0)) w5 := ⟨_, rfl, by rw [HE]; exact h5, E3.kp.trans k5, fun hz => absurd (by rw [HE] at hz; exact hz) (stopF_why (by omega))⟩
          clear HE h5 k5 E3 c2
          go_wp2
          go_ret
          exact P
         ·
          have hL1 : 1 ≤ L.length := by have := HN.out; omega
          obtain ⟨g, cp2, hv2, hg2, hcp2, hI2⟩ := er_form1 E3 hL1
          obtain ⟨rfl, rfl⟩ : ao = some ⟨g, 0, none⟩ ∧ cp = cp2 := by simpa [HN.out] using hv2
          have hc16 := hI2.cell (N - 1) (by have := HN.out; omega)
          rw [Nat.zero_add] at hc16
          obtain ⟨X, hX⟩ : ∃ X, X = L.getD (N - 1) 0 := ⟨_, rfl⟩
          rw [← hX] at hc16
          obtain ⟨N1, hN1⟩ : ∃ N1, N1 = N - 1 := ⟨_, rfl⟩
          rw [← hN1] at hc16
          have hNI : (N : Int) - 1 = (N1 : Int) := by omega
          have hN1b : (N1 : Int) < (N : Int) := by omega
          have e0 : ((N : Int) == 0) = false := by rw [beq_eq_false_iff_ne]; omega
          have HXE : Hid (L.getD (L.length - 1) 0 = X) := by show _ = _; rw [hX, HN.out]
          have HC3 : Hid (¬ L.length = 0) := by show ¬ _; omega
          clear hX hN1 hv2 hI2 c3
          have hnb := numF_lt s 2 σ3
          have h2p : (2 : Nat) ^ 2 = 4 := rfl
          rw [h2p] at hnb
          clear h2p
          go_wp2_with fail
          refine (number_any B gx 2 s σ3 vt _ E3.str hs E3.fit.pos (by omega)).mono ?_
          rintro e w5 ⟨rfl, h5, k5⟩
          have E4 := er_call E3 li h5 k5 (E3.fit.num 2)
          have hstep : lenStep s L (kk, σ3) = (false, (numF s 2 σ3).1 + 3, X, (numF s 2 σ3).2) := by unfold lenStep; rw [if_neg (by have := HC1.out; omega), if_pos HC2.out, if_neg HC3.out, HXE.out]
          generalize numF s 2 σ3 = q5 at E4 hnb hstep ⊢
          obtain ⟨am, σ4⟩ := q5
          simp only at E4 hnb hstep ⊢
          clear h5 k5 E3
          obtain ⟨T, hT⟩ : ∃ T : Nat, T = (am + 3) := ⟨_, rfl⟩
          obtain ⟨hf1, x1, x2, x3⟩ := HX.out T X σ4 (by rw [hT]; exact hstep)
          have HNX : Hid (∀ v wq, ER B w wq gx s vt Bl gc c v (L ++ List.replicate T X) σ4 → ∃ (L : List Int) (σ2 : St), n - L.length + 1 ≤ gk - 1 ∧ L.length ≤ n + 138 ∧ lenGo s c n (gk - 1) L σ2 = (lensF s n k σ) ∧ ER B w wq gx s vt Bl gc c v L σ2) := fun v wq hh => ⟨_, _, x1, x2, x3, hh⟩
          have HTT : Hid (T = (am + 3)) := hT
          have hTb : T ≤ 138 := by omega
          clear x1 x2 x3 HX HY hT
          clear hstep
          go_wp2_with fail
          go_loopw [12, 15] (fun v i wq => ∃ (t : Nat) (L2 : List Int), t ≤ T ∧ i = .int .i64 (t : Nat) ∧ L2 = L ++ List.replicate (T - t) X ∧ ER B w wq gx s vt Bl gc c v L2 σ4) (fun _ i _ => (intOf i).toNat)
          case atStart => exact ⟨T, L, Nat.le_refl _, by have := HTT.out; go_num, by rw [Nat.sub_self]; simp, E4⟩
          case round =>
           clear E4
           obtain ⟨t, L2, ht, rfl, hL2, hrel⟩ := hrel
           have hlen : L2.length = L.length + (T - t) := by rw [hL2, List.length_append, List.length_replicate]
           obtain ⟨N2, hN2⟩ : ∃ N2, N2 = L2.length := ⟨_, rfl⟩
           have hown := hrel.own
           have hbl := hrel.bl
           have hNL := HN.out
           have hN2b : N2 ≤ n + 276 := by omega
           rw [← hN2] at hown
           by_cases ht0 : 0 < t
           ·
            have HM : Hid (_) := fun (g' cap' : Nat) (w2 : World) (o : Obj) => er_more (w2 := w2) (g' := g') (cap' := cap') (o := o) (x := X) hrel li hN2
            have HL : Hid (L2 ++ [X] = L ++ List.replicate (T - (t - 1)) X) := by
             show _ = _
             rw [hL2, show T - (t - 1) = (T - t) + 1 from by omega, List.replicate_succ', List.append_assoc]
            clear hN2 hL2 hrel hlen hNL
            go_wp2_with (first | (at_builtin; refine wpList_append1s wr rfl (.tmp 99) (.tmp 101) 61 rfl Bl 3 (.int .i64 0) 8 Tryz.underlying61 Tryz.info3 rfl u12 N2 _ (.int .i64 X) rfl rfl wr.heap.size rfl rfl hown hbl (by unfold maxLen; omega) (by omega) ?_) | fail)
            intro g' cap' w2 ho hd hg
            have R := HM.out g' cap' w2 _ ho hg
            clear ho hd hg HM hown
            go_wp2
            go_roundw
            case rel => exact ⟨t - 1, _, by omega, by go_num, HL.out, R⟩
            case measure => simp [intOf]; omega
           ·
            obtain rfl : t = 0 := by omega
            have R := HNX.out u12 wr (by rw [Nat.sub_zero] at hL2; rw [← hL2]; exact hrel)
            clear hrel hL2 hN2 hown HNX hNL hlen
            go_wp2
            go_roundg (gk - 1)
            case measure => omega
            case rel => exact R
        ·
         have d2 : (kk == 16) = false := by rw [beq_eq_false_iff_ne]; exact c2
         have HC2 : Hid (¬ kk = 16) := c2
         by_cases c3 : kk = 17
         ·
          have d3 : (kk == 17) = true := by rw [beq_iff_eq]; exact c3
          have HC3 : Hid (kk = 17) := c3
          have hnb := numF_lt s 3 σ3
          have h2p : (2 : Nat) ^ 3 = 8 := rfl
          rw [h2p] at hnb
          clear h2p
          go_wp2_with fail
          refine (number_any B gx 3 s σ3 vt _ E3.str hs E3.fit.pos (by omega)).mono ?_
          rintro e w5 ⟨rfl, h5, k5⟩
          have E4 := er_call E3 li h5 k5 (E3.fit.num 3)
          have hstep : lenStep s L (kk, σ3) = (false, (numF s 3 σ3).1 + 3, 0, (numF s 3 σ3).2) := by unfold lenStep; rw [if_neg (by have := HC1.out; omega), if_neg HC2.out, if_pos HC3.out]
          generalize numF s 3 σ3 = q5 at E4 hnb hstep ⊢
          obtain ⟨am, σ4⟩ := q5
          simp only at E4 hnb hstep ⊢
          clear h5 k5 E3
          obtain ⟨T, hT⟩ : ∃ T : Nat, T = (am + 3) := ⟨_, rfl⟩
          obtain ⟨hf1, x1, x2, x3⟩ := HX.out T 0 σ4 (by rw [hT]; exact hstep)
          have HNX : Hid (∀ v wq, ER B w wq gx s vt Bl gc c v (L ++ List.replicate T 0) σ4 → ∃ (L : List Int) (σ2 : St), n - L.length + 1 ≤ gk - 1 ∧ L.length ≤ n + 138 ∧ lenGo s c n (gk - 1) L σ2 = (lensF s n k σ) ∧ ER B w wq gx s vt Bl gc c v L σ2) := fun v wq hh => ⟨_, _, x1, x2, x3, hh⟩
          have HTT : Hid (T = (am + 3)) := hT
          have hTb : T ≤ 138 := by omega
          clear x1 x2 x3 HX HY hT
          clear hstep
          go_wp2_with fail
          go_loopw [12, 15] (fun v i wq => ∃ (t : Nat) (L2 : List Int), t ≤ T ∧ i = .int .i64 (t : Nat) ∧ L2 = L ++ List.replicate (T - t) 0 ∧ ER B w wq gx s vt Bl gc c v L2 σ4) (fun _ i _ => (intOf i).toNat)
          case atStart => exact ⟨T, L, Nat.le_refl _, by have := HTT.out; go_num, by rw [Nat.sub_self]; simp, E4⟩
          case round =>
           clear E4
           obtain ⟨t, L2, ht, rfl, hL2, hrel⟩ := hrel
           have hlen : L2.length = L.length + (T - t) := by rw [hL2, List.length_append, List.length_replicate]
           obtain ⟨N2, hN2⟩ : ∃ N2, N2 = L2.length := ⟨_, rfl⟩
           have hown := hrel.own
           have hbl := hrel.bl
           have hNL := HN.out
           have hN2b : N2 ≤ n + 276 := by omega
           rw [← hN2] at hown
           by_cases ht0 : 0 < t
           ·
            have HM : Hid (_) := fun (g' cap' : Nat) (w2 : World) (o : Obj) => er_more (w2 := w2) (g' := g') (cap' := cap') (o := o) (x := 0) hrel li hN2
            have HL : Hid (L2 ++ [0] = L ++ List.replicate (T - (t - 1)) 0) := by
             show _ = _
             rw [hL2, show T - (t - 1) = (T - t) + 1 from by omega, List.replicate_succ', List.append_assoc]
            clear hN2 hL2 hrel hlen hNL
            go_wp2_with (first | (at_builtin; refine wpList_append1s wr rfl (.tmp 99) (.tmp 101) 61 rfl Bl 3 (.int .i64 0) 8 Tryz.underlying61 Tryz.info3 rfl u12 N2 _ (.int .i64 0) rfl rfl wr.heap.size rfl rfl hown hbl (by unfold maxLen; omega) (by omega) ?_) | fail)
            intro g' cap' w2 ho hd hg
            have R := HM.out g' cap' w2 _ ho hg
            clear ho hd hg HM hown
            go_wp2
            go_roundw
            case rel => exact ⟨t - 1, _, by omega, by go_num, HL.out, R⟩
            case measure => simp [intOf]; omega
           ·
            obtain rfl : t = 0 := by omega
            have R := HNX.out u12 wr (by rw [Nat.sub_zero] at hL2; rw [← hL2]; exact hrel)
            clear hrel hL2 hN2 hown HNX hNL hlen
            go_wp2
            go_roundg (gk - 1)
            case measure => omega
            case rel => exact R
         ·
          have d3 : (kk == 17) = false := by rw [beq_eq_false_iff_ne]; exact c3
          have HC3 : Hid (¬ kk = 17) := c3
          have hnb := numF_lt s 7 σ3
          have h2p : (2 : Nat) ^ 7 = 128 := rfl
          rw [h2p] at hnb
          clear h2p
          go_wp2_with fail
          refine (number_any B gx 7 s σ3 vt _ E3.str hs E3.fit.pos (by omega)).mono ?_
          rintro e w5 ⟨rfl, h5, k5⟩
          have E4 := er_call E3 li h5 k5 (E3.fit.num 7)
          have hstep : lenStep s L (kk, σ3) = (false, (numF s 7 σ3).1 + 11, 0, (numF s 7 σ3).2) := by unfold lenStep; rw [if_neg (by have := HC1.out; omega), if_neg HC2.out, if_neg HC3.out]
          generalize numF s 7 σ3 = q5 at E4 hnb hstep ⊢
          obtain ⟨am, σ4⟩ := q5
          simp only at E4 hnb hstep ⊢
          clear h5 k5 E3
          obtain ⟨T, hT⟩ : ∃ T : Nat, T = (am + 11) := ⟨_, rfl⟩
          obtain ⟨hf1, x1, x2, x3⟩ := HX.out T 0 σ4 (by rw [hT]; exact hstep)
          have HNX : Hid (∀ v wq, ER B w wq gx s vt Bl gc c v (L ++ List.replicate T 0) σ4 → ∃ (L : List Int) (σ2 : St), n - L.length + 1 ≤ gk - 1 ∧ L.length ≤ n + 138 ∧ lenGo s c n (gk - 1) L σ2 = (lensF s n k σ) ∧ ER B w wq gx s vt Bl gc c v L σ2) := fun v wq hh => ⟨_, _, x1, x2, x3, hh⟩
          have HTT : Hid (T = (am + 11)) := hT
          have hTb : T ≤ 138 := by omega
          clear x1 x2 x3 HX HY hT
          clear hstep
          go_wp2_with fail
          go_loopw [12, 15] (fun v i wq => ∃ (t : Nat) (L2 : List Int), t ≤ T ∧ i = .int .i64 (t : Nat) ∧ L2 = L ++ List.replicate (T - t) 0 ∧ ER B w wq gx s vt Bl gc c v L2 σ4) (fun _ i _ => (intOf i).toNat)
          case atStart => exact ⟨T, L, Nat.le_refl _, by have := HTT.out; go_num, by rw [Nat.sub_self]; simp, E4⟩
          case round =>
           clear E4
           obtain ⟨t, L2, ht, rfl, hL2, hrel⟩ := hrel
           have hlen : L2.length = L.length + (T - t) := by rw [hL2, List.length_append, List.length_replicate]
           obtain ⟨N2, hN2⟩ : ∃ N2, N2 = L2.length := ⟨_, rfl⟩
           have hown := hrel.own
           have hbl := hrel.bl
           have hNL := HN.out
           have hN2b : N2 ≤ n + 276 := by omega
           rw [← hN2] at hown
           by_cases ht0 : 0 < t
           ·
            have HM : Hid (_) := fun (g' cap' : Nat) (w2 : World) (o : Obj) => er_more (w2 := w2) (g' := g') (cap' := cap') (o := o) (x := 0) hrel li hN2
            have HL : Hid (L2 ++ [0] = L ++ List.replicate (T - (t - 1)) 0) := by
             show _ = _
             rw [hL2, show T - (t - 1) = (T - t) + 1 from by omega, List.replicate_succ', List.append_assoc]
            clear hN2 hL2 hrel hlen hNL
            go_wp2_with (first | (at_builtin; refine wpList_append1s wr rfl (.tmp 99) (.tmp 101) 61 rfl Bl 3 (.int .i64 0) 8 Tryz.underlying61 Tryz.info3 rfl u12 N2 _ (.int .i64 0) rfl rfl wr.heap.size rfl rfl hown hbl (by unfold maxLen; omega) (by omega) ?_) | fail)
            intro g' cap' w2 ho hd hg
            have R := HM.out g' cap' w2 _ ho hg
            clear ho hd hg HM hown
            go_wp2
            go_roundw
            case rel => exact ⟨t - 1, _, by omega, by go_num, HL.out, R⟩
            case measure => simp [intOf]; omega
           ·
            obtain rfl : t = 0 := by omega
            have R := HNX.out u12 wr (by rw [Nat.sub_zero] at hL2; rw [← hL2]; exact hrel)
            clear hrel hL2 hN2 hown HNX hNL hlen
            go_wp2
            go_roundg (gk - 1)
            case measure => omega
            case rel => exact R
      ·
       have HE : Hid ((lensF s n k σ) = (L, if n < L.length then stopF σ2 1 else σ2)) := len_end heq (by omega) hgo
       clear heq
       by_cases hlong : n < L.length
       ·
        have dN : decide ((N : Int) < (n : Int)) = false := by rw [decide_eq_false_iff_not]; omega
        have dN2 : decide ((n : Int) < (N : Int)) = true := by rw [decide_eq_true_iff]; omega
        have HE2 : Hid ((lensF s n k σ) = (L, stopF σ2 1)) := by show _ = _; rw [HE.out, if_pos hlong]
        have hNn : n < N := by omega
        clear HE hN hgo hlong
        go_wp2_with fail
        refine (stops_any B gx 1 s σ2 vt _ hrel.str).mono ?_
        rintro e w5 ⟨rfl, h5, k5⟩
        have P : LensPost B w gx s vt n (lensF s n k σ) (.returned (.slice ao N cp)) w5 := ⟨_, rfl, by rw [HE2.out]; exact h5, hrel.kp.trans k5, fun hz => absurd (by rw [HE2.out] at hz; exact hz) (stopF_why (by omega))⟩
        clear HE2 h5 k5 hrel
        go_wp2
        go_ret
        exact P
       ·
        have dN2 : decide ((n : Int) < (N : Int)) = false := by rw [decide_eq_false_iff_not]; omega
        have P : LensPost B w gx s vt n (lensF s n k σ) (.returned (.slice ao N cp)) wr := by
         refine ⟨_, rfl, by rw [HE.out, if_neg hlong]; exact hrel.str, hrel.kp, fun hz => ?_⟩
         have hz2 : σ2.why = 0 := by rw [HE.out, if_neg hlong] at hz; exact hz
         have hLn : L.length = n := by omega
         obtain ⟨g, cp2, hv2, hg2, hcp2, hI2⟩ := er_form1 hrel (by omega)
         rw [hLn] at hv2 hcp2 hI2
         refine ⟨g, cp2, hv2, Nat.le_trans li.le hg2, hcp2, ?_⟩
         rw [HE.out]
         exact hI2
        by_cases hlt : N < n
        ·
         have dN : decide ((N : Int) < (n : Int)) = true := by rw [decide_eq_true_iff]; omega
         have e3 : ((σ2.why : Int) == 0) = false := by rw [beq_eq_false_iff_ne]; omega
         clear HE hN hgo hlong hrel
         go_wp2
         go_ret
         exact P
        ·
         have dN : decide ((N : Int) < (n : Int)) = false := by rw [decide_eq_false_iff_not]; omega
         have hle : N ≤ n := by omega
         clear HE hN hgo hlong hrel
         go_wp2
         go_ret
         exact P
    ·
     have e1 : ((32768 : Int) - (K : Int) != 0) = true := by rw [bne_iff_ne]; omega
     have HF : Hid (lensF s n k σ = ([], stopF σ1 1)) := by
      show _ = _
      rw [HT.out, lhs.out, if_neg (by omega), if_pos (by omega)]
     have hw4 := stopF_why (σ := σ1) (y := 1) (by omega)
     clear hK hy HT lhs hKK
     go_wp2_with fail
     refine (stops_any B gx 1 s σ1 vt _ hstr).mono ?_
     rintro e w4 ⟨rfl, h4, k4⟩
     have P : LensPost B w gx s vt n (lensF s n k σ) (.returned (.slice none 0 0)) w4 := ⟨_, rfl, by rw [HF.out]; exact h4, hkp.trans k4, fun hz => absurd (by rw [HF.out] at hz; exact hz) (stopF_why (by omega))⟩
     have d4 := h4.c3
     generalize stopF σ1 1 = σ4 at d4 hw4
     have e4 : ((σ4.why : Int) != 0) = true := by rw [bne_iff_ne]; omega
     clear HF h4 k4 hstr hkp hw4
     go_wp2
     go_ret
     exact P
   ·
    have e3 : ((σ1.why : Int) == 0) = false := by rw [beq_eq_false_iff_ne]; omega
    have e3' : ((σ1.why : Int) != 0) = true := by rw [bne_iff_ne]; omega
    have P : LensPost B w gx s vt n (lensF s n k σ) (.returned (.slice none 0 0)) w2 := by
     have HF : lensF s n k σ = ([], σ1) := by rw [HT.out, lhs.out, if_pos (by omega)]
     exact ⟨_, rfl, by rw [HF]; exact hstr, hkp, fun hz => absurd (by rw [HF] at hz; exact hz) hy⟩
    clear HT lhs hKK hstr hkp hy
    go_wp2
    go_ret
    exact P
end Go.Proofs.YtecddphahiadlaaGreatDoor
