import Derived.Test.YtecddphahiadlaaGreatDoorCMonR
/- Fewer bytes ahead: what is read of bytes is read of their rest, and nothing but the place hangs on it: plain reckoning. -/
namespace Go.Proofs.YtecddphahiadlaaGreatDoor
open Go.RowKit
/-- The same place, with so many bytes more ahead of it. -/
def St.up (σ : St) (off : Nat) : St := { σ with pos := σ.pos + 8 * off }
theorem St.up_text (σ : St) (off : Nat) : (σ.up off).text = σ.text := rfl
theorem St.up_pos (σ : St) (off : Nat) : (σ.up off).pos = σ.pos + 8 * off := rfl
/-- s1 are the bytes of s2 behind the first off ones. -/
structure Sh (off : Nat) (s1 s2 : ByteArray) : Prop where
 size : s2.size = s1.size + off
 bit : ∀ p, p < 8 * s1.size → bitOf s1 p = bitOf s2 (p + 8 * off)
/-- A reader for which the place alone hangs on what is ahead, and that does not tell an end. -/
structure Sf {α : Type} (G : ByteArray → St → α × St) : Prop where
 shift : ∀ off s1 s2, Sh off s1 s2 → ∀ σ, G s2 (σ.up off) = ((G s1 σ).1, (G s1 σ).2.up off)
 fin : ∀ s σ, (G s σ).2.fin = σ.fin
namespace Sf
variable {α β : Type}
theorem bind {F : ByteArray → St → α × St} {G : α → ByteArray → St → β × St} (hF : Sf F) (hG : ∀ a, Sf (G a)) : Sf (fun s σ => G (F s σ).1 s (F s σ).2) := by
 refine ⟨fun off s1 s2 h σ => ?_, fun s σ => ((hG _).fin s _).trans (hF.fin s σ)⟩
 have e := hF.shift off s1 s2 h σ
 show G (F s2 (σ.up off)).1 s2 (F s2 (σ.up off)).2 = _
 rw [e]
 exact (hG _).shift off s1 s2 h _
theorem still {f : St → α × St} (h : ∀ off σ, f (σ.up off) = ((f σ).1, (f σ).2.up off)) (hf : ∀ σ, (f σ).2.fin = σ.fin) : Sf (fun _ σ => f σ) := ⟨fun off _ _ _ σ => h off σ, fun _ σ => hf σ⟩
theorem pure (a : α) : Sf (fun _ σ => (a, σ)) := still (fun _ _ => rfl) (fun _ => rfl)
theorem ite (p : St → Prop) [∀ σ, Decidable (p σ)] (hp : ∀ off σ, p (St.up σ off) ↔ p σ) {F G : ByteArray → St → α × St} (hF : Sf F) (hG : Sf G) : Sf (fun s σ => if p σ then F s σ else G s σ) := by
 refine ⟨fun off s1 s2 h σ => ?_, fun s σ => ?_⟩
 ·
  by_cases c : p σ
  · simp only [if_pos c, if_pos ((hp off σ).2 c)]; exact hF.shift off s1 s2 h σ
  ·
   have c' : ¬ p (σ.up off) := fun x => c ((hp off σ).1 x)
   simp only [if_neg c, if_neg c']; exact hG.shift off s1 s2 h σ
 ·
  by_cases c : p σ
  · simp only [if_pos c]; exact hF.fin s σ
  · simp only [if_neg c]; exact hG.fin s σ
theorem congr {F G : ByteArray → St → α × St} (hF : Sf F) (h : ∀ s σ, G s σ = F s σ) : Sf G := by
 have e : G = F := funext fun s => funext fun σ => h s σ
 rw [e]; exact hF
end Sf
theorem sf_bit : Sf bitF := by
 refine ⟨fun off s1 s2 h σ => ?_, fun s σ => ?_⟩
 ·
  have hz := h.size
  by_cases hy : σ.why = 0
  ·
   have hy' : (σ.up off).why = 0 := hy
   by_cases h1 : 8 * s1.size ≤ σ.pos
   ·
    rw [bitF_end hy h1, bitF_end hy' (by rw [St.up_pos]; omega)]
    rfl
   ·
    rw [bitF_go hy (by omega), bitF_go hy' (by rw [St.up_pos]; omega), h.bit _ (by omega)]
    show (_, ({ σ with pos := σ.pos + 8 * off + 1 } : St)) = (_, ({ σ with pos := σ.pos + 1 + 8 * off } : St))
    rw [show σ.pos + 8 * off + 1 = σ.pos + 1 + 8 * off by omega]
    rfl
  · rw [bitF_dead hy, bitF_dead (σ := σ.up off) hy]
 ·
  unfold bitF
  split
  · rfl
  · split <;> rfl
theorem sf_num : ∀ n, Sf (fun s σ => numF s n σ)
 | 0 => Sf.pure 0
 | n + 1 => sf_bit.bind (G := fun b s σ => (b + 2 * (numF s n σ).1, (numF s n σ).2)) fun b => (sf_num n).bind (G := fun r _ σ => (b + 2 * r, σ)) fun _ => Sf.pure _
theorem sf_stop (y : Nat) : Sf (fun _ σ => un (fun σ => stopF σ y) σ) := by
 refine Sf.still (f := un (fun σ => stopF σ y)) (fun off σ => ?_) (fun σ => ?_)
 ·
  show ((), stopF (σ.up off) y) = ((), (stopF σ y).up off)
  unfold stopF
  by_cases h : σ.why = 0
  · rw [if_pos (show (σ.up off).why = 0 from h), if_pos h]; rfl
  · rw [if_neg (show ¬ (σ.up off).why = 0 from h), if_neg h]
 ·
  show (stopF σ y).fin = _
  unfold stopF; split <;> rfl
theorem sf_put (c : UInt8) : Sf (fun _ σ => un (fun σ => putF σ c) σ) := by
 refine Sf.still (f := un (fun σ => putF σ c)) (fun off σ => ?_) (fun σ => ?_)
 ·
  show ((), putF (σ.up off) c) = ((), (putF σ c).up off)
  unfold putF
  by_cases h : σ.why ≠ 0
  · rw [if_pos (show (σ.up off).why ≠ 0 from h), if_pos h]
  ·
   rw [if_neg (show ¬ (σ.up off).why ≠ 0 from h), if_neg h]
   by_cases h2 : σ.text.length = 5000
   · rw [if_pos (show (σ.up off).text.length = 5000 from h2), if_pos h2]; rfl
   · rw [if_neg (show ¬ (σ.up off).text.length = 5000 from h2), if_neg h2]; rfl
 ·
  show (putF σ c).fin = _
  unfold putF
  split
  · rfl
  · split <;> rfl
theorem sf_align : Sf (fun _ σ => un alignF σ) := by
 refine Sf.still (f := un alignF) (fun off σ => ?_) (fun _ => rfl)
 show ((), alignF (σ.up off)) = ((), (alignF σ).up off)
 unfold alignF St.up
 show ((), ({ σ with pos := (σ.pos + 8 * off + 7) / 8 * 8 } : St)) = ((), ({ σ with pos := (σ.pos + 7) / 8 * 8 + 8 * off } : St))
 rw [show (σ.pos + 8 * off + 7) / 8 * 8 = (σ.pos + 7) / 8 * 8 + 8 * off by omega]
theorem sf_headEnd (a b : Nat) : Sf (fun _ σ => un (headEnd a b) σ) :=
 (Sf.ite (fun σ => σ.why = 0 ∧ a + b ≠ 65535) (fun _ _ => Iff.rfl) (sf_stop 1) (Sf.pure ())).congr fun s σ => by
  unfold un headEnd
  split <;> rfl
/-- The head of kind 0 over any reader of its numbers. -/
def plainHOf (nf : ByteArray → St → Nat × St) (s : ByteArray) (σ : St) : Nat × St := ((nf s (alignF σ)).1, headEnd (nf s (alignF σ)).1 (nf s (nf s (alignF σ)).2).1 (nf s (nf s (alignF σ)).2).2)
theorem sf_plainHOf {nf : ByteArray → St → Nat × St} (hn : Sf nf) : Sf (plainHOf nf) :=
 (sf_align.bind (G := fun _ s σ => ((nf s σ).1, headEnd (nf s σ).1 (nf s (nf s σ).2).1 (nf s (nf s σ).2).2)) fun _ =>
  (hn.bind (G := fun a s σ => (a, headEnd a (nf s σ).1 (nf s σ).2)) fun a =>
   (hn.bind (G := fun b _ σ => (a, headEnd a b σ)) fun b =>
    ((sf_headEnd a b).bind (G := fun _ _ σ => (a, σ)) fun _ => Sf.pure a).congr fun _ _ => rfl).congr fun _ _ => rfl).congr fun _ _ => rfl).congr fun _ _ => rfl
theorem gd_plainHOf {nf : ByteArray → St → Nat × St} (hn : Gd nf) : Gd (plainHOf nf) :=
 (gd_align.bind (G := fun _ s σ => ((nf s σ).1, headEnd (nf s σ).1 (nf s (nf s σ).2).1 (nf s (nf s σ).2).2)) fun _ =>
  (hn.bind (G := fun a s σ => (a, headEnd a (nf s σ).1 (nf s σ).2)) fun a =>
   (hn.bind (G := fun b _ σ => (a, headEnd a b σ)) fun b =>
    ((gd_headEnd a b).bind (G := fun _ _ σ => (a, σ)) fun _ => Gd.pure a).congr fun _ _ => rfl).congr fun _ _ => rfl).congr fun _ _ => rfl).congr fun _ _ => rfl
theorem plainHead_of (s : ByteArray) (σ : St) : plainHead s σ = plainHOf (fun s σ => numF s 16 σ) s σ := by
 simp only [plainHead, plainHOf, headEnd]
theorem sf_plainHead : Sf plainHead := (sf_plainHOf (nf := fun s σ => numF s 16 σ) (sf_num 16)).congr plainHead_of
theorem gd_plainHead : Gd plainHead := (gd_plainHOf (nf := fun s σ => numF s 16 σ) (gd_num 16)).congr plainHead_of
theorem sf_symGo (c : Nat → ByteArray) (n : Nat) : ∀ (f : Nat) (cur : ByteArray), Sf (fun s σ => symGo s c n f cur σ)
 | 0, _ => Sf.pure (-1)
 |
  f + 1, cur => by
  simp only [symGo]
  cases hitF c cur n 0 with
  | some i => exact Sf.pure (i : Int)
  |
   none =>
   by_cases h : someB c cur n = true
   ·
    simp only [if_pos h]
    exact sf_bit.bind (G := fun b s σ => if σ.why = 0 then symGo s c n f (letB cur b) σ else (-1, σ)) fun b => Sf.ite (fun σ => σ.why = 0) (fun _ _ => Iff.rfl) (sf_symGo c n f (letB cur b)) (Sf.pure (-1))
   ·
    simp only [if_neg h]
    exact (sf_stop 1).bind (G := fun _ _ σ => ((-1 : Int), σ)) fun _ => Sf.pure (-1)
theorem sf_sym (c : Nat → ByteArray) (n : Nat) : Sf (fun s σ => symF s c n σ) := sf_symGo c n 17 .empty
theorem sf_pairEnd (n back : Nat) : Sf (fun _ σ => un (pairEnd n back) σ) := by
 refine Sf.still (f := un (pairEnd n back)) (fun off σ => ?_) (fun σ => ?_)
 ·
  show ((), pairEnd n back (σ.up off)) = ((), (pairEnd n back σ).up off)
  have hs : ∀ y, stopF (σ.up off) y = (stopF σ y).up off := fun y => congrArg Prod.snd ((sf_stop y).shift off .empty ⟨(Array.replicate off 0)⟩ ⟨by show (Array.replicate off (0 : UInt8)).size = 0 + off; simp, fun p hp => absurd hp (by show ¬ p < 8 * 0; omega)⟩ σ)
  unfold pairEnd
  by_cases h : σ.why ≠ 0
  · rw [if_pos (show (σ.up off).why ≠ 0 from h), if_pos h]
  ·
   rw [if_neg (show ¬ (σ.up off).why ≠ 0 from h), if_neg h]
   by_cases h2 : σ.text.length < back
   · rw [if_pos (show (σ.up off).text.length < back from h2), if_pos h2, hs]
   ·
    rw [if_neg (show ¬ (σ.up off).text.length < back from h2), if_neg h2]
    by_cases h3 : 5000 < σ.text.length + n
    · rw [if_pos (show 5000 < (σ.up off).text.length + n from h3), if_pos h3, hs]
    · rw [if_neg (show ¬ 5000 < (σ.up off).text.length + n from h3), if_neg h3]; rfl
 ·
  show (pairEnd n back σ).fin = _
  have hs : ∀ y, (stopF σ y).fin = σ.fin := fun y => (sf_stop y).fin .empty σ
  unfold pairEnd
  split
  · rfl
  ·
   split
   · exact hs _
   ·
    split
    · exact hs _
    · rfl
theorem sf_dist (k : Int) : Sf (fun _ σ => un (fun σ => distSt (k, σ)) σ) :=
 (Sf.ite (fun σ => σ.why = 0 ∧ 29 < k) (fun _ _ => Iff.rfl) (sf_stop 1) (Sf.pure ())).congr fun s σ => by
  by_cases h : σ.why = 0 ∧ 29 < k
  · simp only [un, distSt, if_pos h]
  · simp only [un, distSt, if_neg h]
theorem sf_pairDist (n : Nat) (k : Int) : Sf (unS fun s σ => pairDist s n (k, σ)) := by
 refine (Sf.ite (fun σ => (distSt (k, σ)).why ≠ 0) (fun off σ => ?_) (sf_dist k) ((sf_num (moreN 4 2 k.toNat)).bind (G := fun v _ σ => un (pairEnd n (baseN 1 4 2 k.toNat + v)) σ) fun v => sf_pairEnd n _)).congr fun s σ => ?_
 ·
  unfold distSt
  by_cases h : σ.why = 0 ∧ 29 < k
  ·
   rw [if_pos (show (k, σ.up off).2.why = 0 ∧ 29 < k from h), if_pos (show (k, σ).2.why = 0 ∧ 29 < k from h)]
   show (stopF (σ.up off) 1).why ≠ 0 ↔ (stopF σ 1).why ≠ 0
   unfold stopF
   rw [if_pos (show (σ.up off).why = 0 from h.1), if_pos h.1]
  ·
   rw [if_neg (show ¬ ((k, σ.up off).2.why = 0 ∧ 29 < k) from h), if_neg (show ¬ ((k, σ).2.why = 0 ∧ 29 < k) from h)]
   exact Iff.rfl
 ·
  unfold unS pairDist
  simp only
  split <;> rfl
theorem sf_pair (c : Nat → ByteArray) (n y : Nat) : Sf (unS fun s σ => pairF s c n y σ) :=
 ((
  sf_num (pairM y)).bind (G := fun v s σ => unS (fun s σ => pairDist s (pairN y + v) (symF s c n σ)) s σ) fun v =>
  ((sf_sym c n).bind (G := fun k s σ => unS (fun s σ => pairDist s (pairN y + v) (k, σ)) s σ) fun k => sf_pairDist _ k).congr fun _ _ => rfl).congr fun _ _ => rfl
theorem sf_step (c : Nat → ByteArray) (n there : Nat) (k : Int) : Sf (fun s σ => stepF s c n there (k, σ)) := by
 refine (Sf.ite (fun σ => σ.why ≠ 0 ∨ k = 256) (fun _ _ => Iff.rfl) (Sf.pure true) (Sf.ite (fun _ => k < 256) (fun _ _ => Iff.rfl) ((sf_put (UInt8.ofNat k.toNat)).bind (G := fun _ _ σ => (false, σ)) fun _ => Sf.pure false) (Sf.ite (fun _ => 285 < k ∨ there = 0) (fun _ _ => Iff.rfl) ((sf_stop 1).bind (G := fun _ _ σ => (false, σ)) fun _ => Sf.pure false) ((sf_pair c n k.toNat).bind (G := fun _ _ σ => (false, σ)) fun _ => Sf.pure false)))).congr fun s σ => ?_
 rfl
theorem sf_stop29 (a : Nat) : Sf (fun _ σ => un (fun σ => stop29 (a, σ)) σ) :=
 (Sf.ite (fun σ => σ.why = 0 ∧ 29 < a) (fun _ _ => Iff.rfl) (sf_stop 1) (Sf.pure ())).congr fun s σ => by
  by_cases h : σ.why = 0 ∧ 29 < a
  · simp only [un, stop29, if_pos h]
  · simp only [un, stop29, if_neg h]
theorem sf_headOf {n5 n4 : ByteArray → St → Nat × St} (h5 : Sf n5) (h4 : Sf n4) : Sf (headOf n5 n4) :=
 (h5.bind (G := fun a s σ => ((a, (n5 s (stop29 (a, σ))).1, (n4 s (stop29 (n5 s (stop29 (a, σ))))).1), (n4 s (stop29 (n5 s (stop29 (a, σ))))).2)) fun a =>
  ((
   sf_stop29 a).bind (G := fun _ s σ => ((a, (n5 s σ).1, (n4 s (stop29 (n5 s σ))).1), (n4 s (stop29 (n5 s σ))).2)) fun _ =>
   (h5.bind (G := fun b s σ => ((a, b, (n4 s (stop29 (b, σ))).1), (n4 s (stop29 (b, σ))).2)) fun b =>
    ((
     sf_stop29 b).bind (G := fun _ s σ => ((a, b, (n4 s σ).1), (n4 s σ).2)) fun _ =>
     (h4.bind (G := fun c _ σ => ((a, b, c), σ)) fun c => Sf.pure (a, b, c)).congr fun _ _ => rfl).congr fun _ _ => rfl).congr fun _ _ => rfl).congr fun _ _ => rfl).congr fun _ _ => rfl
theorem sf_head : Sf headT := (sf_headOf (n5 := fun s σ => numF s 5 σ) (n4 := fun s σ => numF s 4 σ) (sf_num 5) (sf_num 4)).congr fun s σ => by
 unfold headT headF headOf
 simp only
theorem sf_headGo : ∀ (r i : Nat) (f : Nat → Nat), Sf (fun s σ => headGo s r i f σ)
 | 0, _, f => Sf.pure f
 |
  r + 1, i, f => ((sf_num 3).bind (G := fun v s σ => headGo s r (i + 1) (fun j => if j = ordN i then v else f j) σ) fun v => sf_headGo r (i + 1) _).congr fun s σ => by
  simp only [headGo]
theorem sf_lenStep (L : List Int) (k : Int) : Sf (fun s σ => (((lenStep s L (k, σ)).1, (lenStep s L (k, σ)).2.1, (lenStep s L (k, σ)).2.2.1), (lenStep s L (k, σ)).2.2.2)) := by
 by_cases h1 : k < 16
 · exact (Sf.pure (false, 1, k)).congr fun s σ => by unfold lenStep; rw [if_pos h1]
 ·
  by_cases h2 : k = 16
  ·
   by_cases h3 : L.length = 0
   · exact ((sf_stop 1).bind (G := fun _ _ σ => ((true, 0, (0 : Int)), σ)) fun _ => Sf.pure _).congr fun s σ => by unfold lenStep; rw [if_neg h1, if_pos h2, if_pos h3]; rfl
   · exact ((sf_num 2).bind (G := fun v _ σ => ((false, v + 3, L.getD (L.length - 1) 0), σ)) fun v => Sf.pure _).congr fun s σ => by unfold lenStep; rw [if_neg h1, if_pos h2, if_neg h3]
  ·
   by_cases h3 : k = 17
   · exact ((sf_num 3).bind (G := fun v _ σ => ((false, v + 3, (0 : Int)), σ)) fun v => Sf.pure _).congr fun s σ => by unfold lenStep; rw [if_neg h1, if_neg h2, if_pos h3]
   · exact ((sf_num 7).bind (G := fun v _ σ => ((false, v + 11, (0 : Int)), σ)) fun v => Sf.pure _).congr fun s σ => by unfold lenStep; rw [if_neg h1, if_neg h2, if_neg h3]
theorem sf_lenGo (c : Nat → ByteArray) (n : Nat) : ∀ (f : Nat) (L : List Int), Sf (fun s σ => lenGo s c n f L σ)
 | 0, L => Sf.pure L
 |
  f + 1, L => by
  refine (Sf.ite (fun σ => L.length < n ∧ σ.why = 0) (fun _ _ => Iff.rfl) (((sf_sym c 19).bind (G := fun k s σ => (((lenStep s L (k, σ)).1, (lenStep s L (k, σ)).2.1, (lenStep s L (k, σ)).2.2.1), (lenStep s L (k, σ)).2.2.2)) fun k => sf_lenStep L k).bind
   (G := fun v s σ => if v.1 = true then ([], σ) else lenGo s c n f (L ++ List.replicate v.2.1 v.2.2) σ) fun v => ?_) (Sf.ite (fun _ => n < L.length) (fun _ _ => Iff.rfl) ((sf_stop 1).bind (G := fun _ _ σ => (L, σ)) fun _ => Sf.pure L) (Sf.pure L))).congr fun s σ => ?_
  ·
   by_cases h : v.1 = true
   · simp only [if_pos h]; exact Sf.pure []
   · simp only [if_neg h]; exact sf_lenGo c n f _
  ·
   simp only [lenGo]
   split
   · rfl
   · split <;> rfl
theorem sf_lens (n many : Nat) : Sf (fun s σ => lensF s n many σ) := by
 refine ((sf_headGo many 0 (fun _ => 0)).bind (G := fun f s σ => lensTail s n (f, σ)) fun f => ?_).congr fun s σ => rfl
 by_cases h : ks0 (headZ f) 19 ≠ 32768
 ·
  exact (Sf.ite (fun σ => σ.why ≠ 0) (fun _ _ => Iff.rfl) (Sf.pure []) ((sf_stop 1).bind (G := fun _ _ σ => (([] : List Int), σ)) fun _ => Sf.pure [])).congr fun s σ => by
   unfold lensTail
   simp only [if_pos h]
   rfl
 ·
  exact (Sf.ite (fun σ => σ.why ≠ 0) (fun _ _ => Iff.rfl) (Sf.pure []) (sf_lenGo (codeT (headZ f) 19) n (n + 1) [])).congr fun s σ => by
   unfold lensTail
   simp only [if_neg h]
theorem sf_ownEnd (L : List Int) (a b : Nat) : Sf (fun _ σ => un (fun σ => ownEnd (L, σ) a b) σ) :=
 (Sf.ite (fun σ => σ.why = 0 ∧ badL L a b = true) (fun _ _ => Iff.rfl) (sf_stop 1) (Sf.pure ())).congr fun s σ => by
  by_cases h : σ.why = 0 ∧ badL L a b = true
  · simp only [un, ownEnd, if_pos h]
  · simp only [un, ownEnd, if_neg h]
theorem sf_own : Sf ownT := by
 refine (sf_head.bind (G := fun h s σ => if σ.why ≠ 0 then ((h.1, h.2.1, []), σ) else ((h.1, h.2.1, (lensF s (h.1 + h.2.1 + 258) (h.2.2 + 4) σ).1), ownEnd (lensF s (h.1 + h.2.1 + 258) (h.2.2 + 4) σ) h.1 h.2.1)) fun h => ?_).congr fun s σ => ?_
 ·
  refine Sf.ite (fun σ => σ.why ≠ 0) (fun _ _ => Iff.rfl) (Sf.pure (h.1, h.2.1, [])) ?_
  exact ((sf_lens (h.1 + h.2.1 + 258) (h.2.2 + 4)).bind (G := fun L _ σ => ((h.1, h.2.1, L), ownEnd (L, σ) h.1 h.2.1)) fun L =>
   ((sf_ownEnd L h.1 h.2.1).bind (G := fun _ _ σ => ((h.1, h.2.1, L), σ)) fun _ => Sf.pure _).congr fun _ _ => rfl).congr fun _ _ => rfl
 ·
  unfold ownT ownF headT
  generalize headF s σ = hd
  by_cases c : hd.st.why ≠ 0
  · simp only [if_pos c]
  · simp only [if_neg c]
/- A stream read step by step, from where it was left: plain reckoning. -/
/-- The codes of a block. -/
structure Pl where
 z1 : Nat → Int
 n1 : Nat
 z2 : Nat → Int
 n2 : Nat
/-- What is known of the block that is read: is it the last, how many bare bytes are to come, by which codes symbols come. -/
structure Md where
 last : Bool
 bare : Nat
 plan : Option Pl
def fixPl : Pl := ⟨fixZ, 288, fivZ, 32⟩
def ownPl (v : Nat × Nat × List Int) : Pl := ⟨lenZ v.2.2 0, v.1 + 257, lenZ v.2.2 (v.1 + 257), v.2.1 + 1⟩
/-- What a block's kind brings. -/
def kindM (b k : Nat) (s : ByteArray) (σ : St) : Md × St :=
 if k = 0 then (⟨b == 1, (plainHead s σ).1, none⟩, (plainHead s σ).2)
 else if k = 1 then (⟨b == 1, 0, some fixPl⟩, σ)
 else if k = 2 then (⟨b == 1, 0, some (ownPl (ownT s σ).1)⟩, (ownT s σ).2)
 else (⟨b == 1, 0, none⟩, stopF σ 1)
/-- A block's head. -/
def headM (s : ByteArray) (σ : St) : Md × St := kindM (bitF s σ).1 (numF s 2 (bitF s σ).2).1 s (numF s 2 (bitF s σ).2).2
/-- A bare byte. -/
def bareM (m : Md) (s : ByteArray) (σ : St) : Md × St := (⟨m.last, m.bare - 1, m.plan⟩, putF (numF s 8 σ).2 (UInt8.ofNat (numF s 8 σ).1))
/-- A symbol. -/
def symP (p : Pl) (s : ByteArray) (σ : St) : Bool × St := stepF s (codeT p.z2 p.n2) p.n2 (thereN (codeT p.z2 p.n2) p.n2) (symF s (codeT p.z1 p.n1) p.n1 σ)
def symM (m : Md) (p : Pl) (s : ByteArray) (σ : St) : Md × St := (if (symP p s σ).1 = true then ⟨m.last, m.bare, none⟩ else m, (symP p s σ).2)
/-- One step. -/
def stepM (m : Md) (s : ByteArray) (σ : St) : Md × St :=
 if 0 < m.bare then bareM m s σ else match m.plan with
  | some p => symM m p s σ
  | none => headM s σ
def Md.over (m : Md) : Prop := m.last = true ∧ m.bare = 0 ∧ m.plan = none
theorem gd_kindM (b k : Nat) : Gd (kindM b k) := by
 by_cases h0 : k = 0
 ·
  subst h0
  exact (gd_plainHead.bind (G := fun n _ σ => ((⟨b == 1, n, none⟩ : Md), σ)) fun n => Gd.pure _).congr fun s σ => by unfold kindM; rw [if_pos rfl]
 ·
  by_cases h1 : k = 1
  · exact (Gd.pure (⟨b == 1, 0, some fixPl⟩ : Md)).congr fun s σ => by unfold kindM; rw [if_neg h0, if_pos h1]
  ·
   by_cases h2 : k = 2
   · exact (gd_own.bind (G := fun v _ σ => ((⟨b == 1, 0, some (ownPl v)⟩ : Md), σ)) fun n => Gd.pure _).congr fun s σ => by unfold kindM; rw [if_neg h0, if_neg h1, if_pos h2]
   · exact ((gd_stop 1).bind (G := fun _ _ σ => ((⟨b == 1, 0, none⟩ : Md), σ)) fun _ => Gd.pure _).congr fun s σ => by unfold kindM; rw [if_neg h0, if_neg h1, if_neg h2]; rfl
theorem sf_kindM (b k : Nat) : Sf (kindM b k) := by
 by_cases h0 : k = 0
 ·
  subst h0
  exact (sf_plainHead.bind (G := fun n _ σ => ((⟨b == 1, n, none⟩ : Md), σ)) fun n => Sf.pure _).congr fun s σ => by unfold kindM; rw [if_pos rfl]
 ·
  by_cases h1 : k = 1
  · exact (Sf.pure (⟨b == 1, 0, some fixPl⟩ : Md)).congr fun s σ => by unfold kindM; rw [if_neg h0, if_pos h1]
  ·
   by_cases h2 : k = 2
   · exact (sf_own.bind (G := fun v _ σ => ((⟨b == 1, 0, some (ownPl v)⟩ : Md), σ)) fun n => Sf.pure _).congr fun s σ => by unfold kindM; rw [if_neg h0, if_neg h1, if_pos h2]
   · exact ((sf_stop 1).bind (G := fun _ _ σ => ((⟨b == 1, 0, none⟩ : Md), σ)) fun _ => Sf.pure _).congr fun s σ => by unfold kindM; rw [if_neg h0, if_neg h1, if_neg h2]; rfl
theorem gd_headOf2 {nf : ByteArray → St → Nat × St} (hn : Gd nf) : Gd (fun s σ => kindM (bitF s σ).1 (nf s (bitF s σ).2).1 s (nf s (bitF s σ).2).2) :=
 (gd_bit.bind (G := fun b s σ => kindM b (nf s σ).1 s (nf s σ).2) fun b => hn.bind (G := fun k s σ => kindM b k s σ) fun k => gd_kindM b k).congr fun _ _ => rfl
theorem sf_headOf2 {nf : ByteArray → St → Nat × St} (hn : Sf nf) : Sf (fun s σ => kindM (bitF s σ).1 (nf s (bitF s σ).2).1 s (nf s (bitF s σ).2).2) :=
 (sf_bit.bind (G := fun b s σ => kindM b (nf s σ).1 s (nf s σ).2) fun b => hn.bind (G := fun k s σ => kindM b k s σ) fun k => sf_kindM b k).congr fun _ _ => rfl
theorem gd_headM : Gd headM := (gd_headOf2 (nf := fun s σ => numF s 2 σ) (gd_num 2)).congr fun s σ => by unfold headM; rfl
theorem sf_headM : Sf headM := (sf_headOf2 (nf := fun s σ => numF s 2 σ) (sf_num 2)).congr fun s σ => by unfold headM; rfl
theorem gd_bareOf {nf : ByteArray → St → Nat × St} (hn : Gd nf) (m : Md) : Gd (fun s σ => ((⟨m.last, m.bare - 1, m.plan⟩ : Md), putF (nf s σ).2 (UInt8.ofNat (nf s σ).1))) :=
 (hn.bind (G := fun v _ σ => ((⟨m.last, m.bare - 1, m.plan⟩ : Md), putF σ (UInt8.ofNat v))) fun v => ((gd_put (UInt8.ofNat v)).bind (G := fun _ _ σ => ((⟨m.last, m.bare - 1, m.plan⟩ : Md), σ)) fun _ => Gd.pure _).congr fun _ _ => rfl).congr fun _ _ => rfl
theorem sf_bareOf {nf : ByteArray → St → Nat × St} (hn : Sf nf) (m : Md) : Sf (fun s σ => ((⟨m.last, m.bare - 1, m.plan⟩ : Md), putF (nf s σ).2 (UInt8.ofNat (nf s σ).1))) :=
 (hn.bind (G := fun v _ σ => ((⟨m.last, m.bare - 1, m.plan⟩ : Md), putF σ (UInt8.ofNat v))) fun v => ((sf_put (UInt8.ofNat v)).bind (G := fun _ _ σ => ((⟨m.last, m.bare - 1, m.plan⟩ : Md), σ)) fun _ => Sf.pure _).congr fun _ _ => rfl).congr fun _ _ => rfl
theorem gd_bareM (m : Md) : Gd (bareM m) := (gd_bareOf (nf := fun s σ => numF s 8 σ) (gd_num 8) m).congr fun s σ => by unfold bareM; rfl
theorem sf_bareM (m : Md) : Sf (bareM m) := (sf_bareOf (nf := fun s σ => numF s 8 σ) (sf_num 8) m).congr fun s σ => by unfold bareM; rfl
theorem gd_symP (p : Pl) : Gd (symP p) := (gd_sym (codeT p.z1 p.n1) p.n1).bind (G := fun k s σ => stepF s (codeT p.z2 p.n2) p.n2 (thereN (codeT p.z2 p.n2) p.n2) (k, σ)) fun k => gd_step _ _ _ k
theorem sf_symP (p : Pl) : Sf (symP p) := (sf_sym (codeT p.z1 p.n1) p.n1).bind (G := fun k s σ => stepF s (codeT p.z2 p.n2) p.n2 (thereN (codeT p.z2 p.n2) p.n2) (k, σ)) fun k => sf_step _ _ _ k
theorem gd_symM (m : Md) (p : Pl) : Gd (symM m p) := (gd_symP p).bind (G := fun b _ σ => ((if b = true then (⟨m.last, m.bare, none⟩ : Md) else m), σ)) fun _ => Gd.pure _
theorem sf_symM (m : Md) (p : Pl) : Sf (symM m p) := (sf_symP p).bind (G := fun b _ σ => ((if b = true then (⟨m.last, m.bare, none⟩ : Md) else m), σ)) fun _ => Sf.pure _
theorem stepM_bare {m : Md} (h : 0 < m.bare) : stepM m = bareM m := by funext s σ; unfold stepM; rw [if_pos h]
theorem stepM_sym {m : Md} {p : Pl} (h : m.bare = 0) (hp : m.plan = some p) : stepM m = symM m p := by funext s σ; unfold stepM; rw [if_neg (by omega), hp]
theorem stepM_head {m : Md} (h : m.bare = 0) (hp : m.plan = none) : stepM m = headM := by funext s σ; unfold stepM; rw [if_neg (by omega), hp]
theorem gd_stepM (m : Md) : Gd (stepM m) := by
 by_cases h : 0 < m.bare
 · rw [stepM_bare h]; exact gd_bareM m
 ·
  cases hp : m.plan with
  | some p => rw [stepM_sym (by omega) hp]; exact gd_symM m p
  | none => rw [stepM_head (by omega) hp]; exact gd_headM
theorem sf_stepM (m : Md) : Sf (stepM m) := by
 by_cases h : 0 < m.bare
 · rw [stepM_bare h]; exact sf_bareM m
 ·
  cases hp : m.plan with
  | some p => rw [stepM_sym (by omega) hp]; exact sf_symM m p
  | none => rw [stepM_head (by omega) hp]; exact sf_headM
/-- From m at σ the reading comes to an end of the kind y (0: the stream's own), with what it had by then. -/
inductive Goes (s : ByteArray) : Md → St → Nat → Md → St → Prop
 | done {m σ} : m.over → Goes s m σ 0 m σ
 | stop {m σ} : ¬ m.over → (stepM m s σ).2.why ≠ 0 → Goes s m σ (stepM m s σ).2.why m σ
 | next {m σ y m' σ'} : ¬ m.over → (stepM m s σ).2.why = 0 → Goes s (stepM m s σ).1 (stepM m s σ).2 y m' σ' → Goes s m σ y m' σ'
theorem Goes.one {s : ByteArray} {m m1 m2 : Md} {σ σ1 σ2 : St} {y1 y2 : Nat} (h1 : Goes s m σ y1 m1 σ1) : Goes s m σ y2 m2 σ2 → y1 = y2 ∧ m1 = m2 ∧ σ1 = σ2 := by
 induction h1 with
 |
  done h => intro k; cases k with
  | done _ => exact ⟨rfl, rfl, rfl⟩
  | stop h' _ => exact absurd h h'
  | next h' _ _ => exact absurd h h'
 |
  stop h hy => intro k; cases k with
  | done h' => exact absurd h' h
  | stop _ _ => exact ⟨rfl, rfl, rfl⟩
  | next _ hy' _ => exact absurd hy' hy
 |
  next h hy _ ih => intro k; cases k with
  | done h' => exact absurd h' h
  | stop _ hy' => exact absurd hy hy'
  | next _ _ k => exact ih k
/-- What is read of some bytes is read of more: the reading goes on from where it was. -/
theorem Goes.more {s' s : ByteArray} (hp : Pfx s' s) {m m1 : Md} {σ σ1 : St} {y1 : Nat} (h1 : Goes s' m σ y1 m1 σ1) : Fit s' σ → ∀ {y2 m2 σ2}, Goes s m1 σ1 y2 m2 σ2 → Goes s m σ y2 m2 σ2 := by
 induction h1 with
 | done h => intro _ _ _ _ k; exact k
 | stop h hy => intro _ _ _ _ k; exact k
 |
  @next m σ y m' σ' h hy _ ih =>
  intro hf y2 m2 σ2 k
  rcases (gd_stepM m).mono s' s hp σ hf with e | e
  ·
   have k2 := ih ((gd_stepM m).fit s' σ hf) k
   rw [e] at k2 hy
   exact Goes.next h hy k2
  · have := e.1; omega
theorem Goes.same {s' s : ByteArray} (hp : Pfx s' s) {m m1 : Md} {σ σ1 : St} {y1 : Nat} (h1 : Goes s' m σ y1 m1 σ1) : Fit s' σ → y1 ≠ 2 → Goes s m σ y1 m1 σ1 := by
 induction h1 with
 | done h => intro _ _; exact Goes.done h
 |
  @stop m σ h hy =>
  intro hf h2
  rcases (gd_stepM m).mono s' s hp σ hf with e | e
  · rw [e] at hy ⊢; exact Goes.stop h hy
  · exact absurd e.1 h2
 |
  @next m σ y m' σ' h hy _ ih =>
  intro hf h2
  rcases (gd_stepM m).mono s' s hp σ hf with e | e
  ·
   have k2 := ih ((gd_stepM m).fit s' σ hf) h2
   rw [e] at k2 hy
   exact Goes.next h hy k2
  · have := e.1; omega
/-- Bytes ahead do not matter. -/
theorem Goes.up {off : Nat} {s1 s2 : ByteArray} (hs : Sh off s1 s2) {m m1 : Md} {σ σ1 : St} {y1 : Nat} (h1 : Goes s1 m σ y1 m1 σ1) : Goes s2 m (σ.up off) y1 m1 (σ1.up off) := by
 induction h1 with
 | done h => exact Goes.done h
 |
  @stop m σ h hy =>
  have e := (sf_stepM m).shift off s1 s2 hs σ
  have k := Goes.stop (s := s2) (σ := σ.up off) h (by rw [e]; exact hy)
  rw [e] at k
  exact k
 |
  @next m σ y m' σ' h hy _ ih =>
  have e := (sf_stepM m).shift off s1 s2 hs σ
  refine Goes.next h (by rw [e]; exact hy) ?_
  rw [e]
  exact ih
theorem Goes.fit {s : ByteArray} {m m1 : Md} {σ σ1 : St} {y1 : Nat} (h1 : Goes s m σ y1 m1 σ1) : Fit s σ → Fit s σ1 := by
 induction h1 with
 | done h => exact fun h => h
 | stop h hy => exact fun h => h
 | @next m σ y m' σ' h hy _ ih => exact fun hf => ih ((gd_stepM m).fit s σ hf)
theorem Goes.why {s : ByteArray} {m m1 : Md} {σ σ1 : St} {y1 : Nat} (h1 : Goes s m σ y1 m1 σ1) : σ.why = 0 → σ1.why = 0 := by
 induction h1 with
 | done h => exact fun h => h
 | stop h hy => exact fun h => h
 | next h hy _ ih => exact fun _ => ih hy
theorem Goes.fin {s : ByteArray} {m m1 : Md} {σ σ1 : St} {y1 : Nat} (h1 : Goes s m σ y1 m1 σ1) : σ1.fin = σ.fin := by
 induction h1 with
 | done h => rfl
 | stop h hy => rfl
 | @next m σ y m' σ' h hy _ ih => exact ih.trans ((sf_stepM m).fin s σ)
theorem Goes.grow {s : ByteArray} {m m1 : Md} {σ σ1 : St} {y1 : Nat} (h1 : Goes s m σ y1 m1 σ1) : σ.text <+: σ1.text := by
 induction h1 with
 | done h => exact List.prefix_refl _
 | stop h hy => exact List.prefix_refl _
 | @next m σ y m' σ' h hy _ ih => exact ((gd_stepM m).grow s σ).trans ih
theorem Goes.over {s : ByteArray} {m m1 : Md} {σ σ1 : St} {y1 : Nat} (h1 : Goes s m σ y1 m1 σ1) : y1 = 0 ↔ m1.over := by
 induction h1 with
 | done h => exact ⟨fun _ => h, fun _ => rfl⟩
 | stop h hy => exact ⟨fun e => absurd e hy, fun e => absurd e h⟩
 | next h hy _ ih => exact ih
/- A whole stream by the document, and the same stream step by step: plain reckoning. -/
def M0 : Md := ⟨false, 0, none⟩
theorem M0_over : ¬ M0.over := fun h => by have := h.1; simp [M0] at this
/-- From one place to another, whatever comes behind. -/
def Steps (s : ByteArray) (m : Md) (σ : St) (m' : Md) (σ' : St) : Prop := ∀ y m2 σ2, Goes s m' σ' y m2 σ2 → Goes s m σ y m2 σ2
theorem Steps.refl (s : ByteArray) (m : Md) (σ : St) : Steps s m σ m σ := fun _ _ _ h => h
theorem Steps.trans {s : ByteArray} {m m1 m2 : Md} {σ σ1 σ2 : St} (h : Steps s m σ m1 σ1) (k : Steps s m1 σ1 m2 σ2) : Steps s m σ m2 σ2 := fun _ _ _ q => h _ _ _ (k _ _ _ q)
theorem Steps.one {s : ByteArray} {m : Md} {σ : St} {q : Md × St} (h : ¬ m.over) (e : stepM m s σ = q) (hy : q.2.why = 0) : Steps s m σ q.1 q.2 := fun _ _ _ k => by
 subst e
 exact Goes.next h hy k
/-- A reader that never turns the text. -/
structure Qt {α : Type} (G : ByteArray → St → α × St) : Prop where
 text : ∀ s σ, (G s σ).2.text = σ.text
namespace Qt
variable {α β : Type}
theorem bind {F : ByteArray → St → α × St} {G : α → ByteArray → St → β × St} (hF : Qt F) (hG : ∀ a, Qt (G a)) : Qt (fun s σ => G (F s σ).1 s (F s σ).2) := ⟨fun s σ => ((hG _).text s _).trans (hF.text s σ)⟩
theorem pure (a : α) : Qt (fun _ σ => (a, σ)) := ⟨fun _ _ => rfl⟩
theorem ite (p : St → Prop) [∀ σ, Decidable (p σ)] {F G : ByteArray → St → α × St} (hF : Qt F) (hG : Qt G) : Qt (fun s σ => if p σ then F s σ else G s σ) := ⟨fun s σ => by
 by_cases c : p σ
 · simp only [if_pos c]; exact hF.text s σ
 · simp only [if_neg c]; exact hG.text s σ⟩
theorem congr {F G : ByteArray → St → α × St} (hF : Qt F) (h : ∀ s σ, G s σ = F s σ) : Qt G := by
 have e : G = F := funext fun s => funext fun σ => h s σ
 rw [e]; exact hF
end Qt
theorem qt_bit : Qt bitF := ⟨fun s σ => bitF_text s σ⟩
theorem qt_num : ∀ n, Qt (fun s σ => numF s n σ)
 | 0 => Qt.pure 0
 | n + 1 => qt_bit.bind (G := fun b s σ => (b + 2 * (numF s n σ).1, (numF s n σ).2)) fun b => (qt_num n).bind (G := fun r _ σ => (b + 2 * r, σ)) fun _ => Qt.pure _
theorem qt_stop (y : Nat) : Qt (fun _ σ => un (fun σ => stopF σ y) σ) := ⟨fun _ σ => stopF_text σ y⟩
theorem qt_align : Qt (fun _ σ => un alignF σ) := ⟨fun _ _ => rfl⟩
theorem qt_headEnd (a b : Nat) : Qt (fun _ σ => un (headEnd a b) σ) :=
 (Qt.ite (fun σ => σ.why = 0 ∧ a + b ≠ 65535) (qt_stop 1) (Qt.pure ())).congr fun s σ => by
  unfold un headEnd
  split <;> rfl
theorem qt_plainHOf {nf : ByteArray → St → Nat × St} (hn : Qt nf) : Qt (plainHOf nf) :=
 (qt_align.bind (G := fun _ s σ => ((nf s σ).1, headEnd (nf s σ).1 (nf s (nf s σ).2).1 (nf s (nf s σ).2).2)) fun _ =>
  (hn.bind (G := fun a s σ => (a, headEnd a (nf s σ).1 (nf s σ).2)) fun a =>
   (hn.bind (G := fun b _ σ => (a, headEnd a b σ)) fun b =>
    ((qt_headEnd a b).bind (G := fun _ _ σ => (a, σ)) fun _ => Qt.pure a).congr fun _ _ => rfl).congr fun _ _ => rfl).congr fun _ _ => rfl).congr fun _ _ => rfl
theorem qt_plainHead : Qt plainHead := (qt_plainHOf (nf := fun s σ => numF s 16 σ) (qt_num 16)).congr plainHead_of
theorem qt_symGo (c : Nat → ByteArray) (n : Nat) : ∀ (f : Nat) (cur : ByteArray), Qt (fun s σ => symGo s c n f cur σ)
 | 0, _ => Qt.pure (-1)
 |
  f + 1, cur => by
  simp only [symGo]
  cases hitF c cur n 0 with
  | some i => exact Qt.pure (i : Int)
  |
   none =>
   by_cases h : someB c cur n = true
   ·
    simp only [if_pos h]
    exact qt_bit.bind (G := fun b s σ => if σ.why = 0 then symGo s c n f (letB cur b) σ else (-1, σ)) fun b => Qt.ite (fun σ => σ.why = 0) (qt_symGo c n f (letB cur b)) (Qt.pure (-1))
   ·
    simp only [if_neg h]
    exact (qt_stop 1).bind (G := fun _ _ σ => ((-1 : Int), σ)) fun _ => Qt.pure (-1)
theorem qt_sym (c : Nat → ByteArray) (n : Nat) : Qt (fun s σ => symF s c n σ) := qt_symGo c n 17 .empty
theorem qt_stop29 (a : Nat) : Qt (fun _ σ => un (fun σ => stop29 (a, σ)) σ) :=
 (Qt.ite (fun σ => σ.why = 0 ∧ 29 < a) (qt_stop 1) (Qt.pure ())).congr fun s σ => by
  by_cases h : σ.why = 0 ∧ 29 < a
  · simp only [un, stop29, if_pos h]
  · simp only [un, stop29, if_neg h]
theorem qt_headOf {n5 n4 : ByteArray → St → Nat × St} (h5 : Qt n5) (h4 : Qt n4) : Qt (headOf n5 n4) :=
 (h5.bind (G := fun a s σ => ((a, (n5 s (stop29 (a, σ))).1, (n4 s (stop29 (n5 s (stop29 (a, σ))))).1), (n4 s (stop29 (n5 s (stop29 (a, σ))))).2)) fun a =>
  ((
   qt_stop29 a).bind (G := fun _ s σ => ((a, (n5 s σ).1, (n4 s (stop29 (n5 s σ))).1), (n4 s (stop29 (n5 s σ))).2)) fun _ =>
   (h5.bind (G := fun b s σ => ((a, b, (n4 s (stop29 (b, σ))).1), (n4 s (stop29 (b, σ))).2)) fun b =>
    ((
     qt_stop29 b).bind (G := fun _ s σ => ((a, b, (n4 s σ).1), (n4 s σ).2)) fun _ =>
     (h4.bind (G := fun c _ σ => ((a, b, c), σ)) fun c => Qt.pure (a, b, c)).congr fun _ _ => rfl).congr fun _ _ => rfl).congr fun _ _ => rfl).congr fun _ _ => rfl).congr fun _ _ => rfl
theorem qt_head : Qt headT := (qt_headOf (n5 := fun s σ => numF s 5 σ) (n4 := fun s σ => numF s 4 σ) (qt_num 5) (qt_num 4)).congr fun s σ => by
 unfold headT headF headOf
 simp only
theorem qt_headGo : ∀ (r i : Nat) (f : Nat → Nat), Qt (fun s σ => headGo s r i f σ)
 | 0, _, f => Qt.pure f
 |
  r + 1, i, f => ((qt_num 3).bind (G := fun v s σ => headGo s r (i + 1) (fun j => if j = ordN i then v else f j) σ) fun v => qt_headGo r (i + 1) _).congr fun s σ => by
  simp only [headGo]
theorem qt_lenStep (L : List Int) (k : Int) : Qt (fun s σ => (((lenStep s L (k, σ)).1, (lenStep s L (k, σ)).2.1, (lenStep s L (k, σ)).2.2.1), (lenStep s L (k, σ)).2.2.2)) := by
 by_cases h1 : k < 16
 · exact (Qt.pure (false, 1, k)).congr fun s σ => by unfold lenStep; rw [if_pos h1]
 ·
  by_cases h2 : k = 16
  ·
   by_cases h3 : L.length = 0
   · exact ((qt_stop 1).bind (G := fun _ _ σ => ((true, 0, (0 : Int)), σ)) fun _ => Qt.pure _).congr fun s σ => by unfold lenStep; rw [if_neg h1, if_pos h2, if_pos h3]; rfl
   · exact ((qt_num 2).bind (G := fun v _ σ => ((false, v + 3, L.getD (L.length - 1) 0), σ)) fun v => Qt.pure _).congr fun s σ => by unfold lenStep; rw [if_neg h1, if_pos h2, if_neg h3]
  ·
   by_cases h3 : k = 17
   · exact ((qt_num 3).bind (G := fun v _ σ => ((false, v + 3, (0 : Int)), σ)) fun v => Qt.pure _).congr fun s σ => by unfold lenStep; rw [if_neg h1, if_neg h2, if_pos h3]
   · exact ((qt_num 7).bind (G := fun v _ σ => ((false, v + 11, (0 : Int)), σ)) fun v => Qt.pure _).congr fun s σ => by unfold lenStep; rw [if_neg h1, if_neg h2, if_neg h3]
theorem qt_lenGo (c : Nat → ByteArray) (n : Nat) : ∀ (f : Nat) (L : List Int), Qt (fun s σ => lenGo s c n f L σ)
 | 0, L => Qt.pure L
 |
  f + 1, L => by
  refine (Qt.ite (fun σ => L.length < n ∧ σ.why = 0) (((qt_sym c 19).bind (G := fun k s σ => (((lenStep s L (k, σ)).1, (lenStep s L (k, σ)).2.1, (lenStep s L (k, σ)).2.2.1), (lenStep s L (k, σ)).2.2.2)) fun k => qt_lenStep L k).bind
   (G := fun v s σ => if v.1 = true then ([], σ) else lenGo s c n f (L ++ List.replicate v.2.1 v.2.2) σ) fun v => ?_) (Qt.ite (fun _ => n < L.length) ((qt_stop 1).bind (G := fun _ _ σ => (L, σ)) fun _ => Qt.pure L) (Qt.pure L))).congr fun s σ => ?_
  ·
   by_cases h : v.1 = true
   · simp only [if_pos h]; exact Qt.pure []
   · simp only [if_neg h]; exact qt_lenGo c n f _
  ·
   simp only [lenGo]
   split
   · rfl
   · split <;> rfl
theorem qt_lens (n many : Nat) : Qt (fun s σ => lensF s n many σ) := by
 refine ((qt_headGo many 0 (fun _ => 0)).bind (G := fun f s σ => lensTail s n (f, σ)) fun f => ?_).congr fun s σ => rfl
 by_cases h : ks0 (headZ f) 19 ≠ 32768
 ·
  exact (Qt.ite (fun σ => σ.why ≠ 0) (Qt.pure []) ((qt_stop 1).bind (G := fun _ _ σ => (([] : List Int), σ)) fun _ => Qt.pure [])).congr fun s σ => by
   unfold lensTail
   simp only [if_pos h]
   rfl
 ·
  exact (Qt.ite (fun σ => σ.why ≠ 0) (Qt.pure []) (qt_lenGo (codeT (headZ f) 19) n (n + 1) [])).congr fun s σ => by
   unfold lensTail
   simp only [if_neg h]
theorem qt_ownEnd (L : List Int) (a b : Nat) : Qt (fun _ σ => un (fun σ => ownEnd (L, σ) a b) σ) :=
 (Qt.ite (fun σ => σ.why = 0 ∧ badL L a b = true) (qt_stop 1) (Qt.pure ())).congr fun s σ => by
  by_cases h : σ.why = 0 ∧ badL L a b = true
  · simp only [un, ownEnd, if_pos h]
  · simp only [un, ownEnd, if_neg h]
theorem qt_own : Qt ownT := by
 refine (qt_head.bind (G := fun h s σ => if σ.why ≠ 0 then ((h.1, h.2.1, []), σ) else ((h.1, h.2.1, (lensF s (h.1 + h.2.1 + 258) (h.2.2 + 4) σ).1), ownEnd (lensF s (h.1 + h.2.1 + 258) (h.2.2 + 4) σ) h.1 h.2.1)) fun h => ?_).congr fun s σ => ?_
 ·
  refine Qt.ite (fun σ => σ.why ≠ 0) (Qt.pure (h.1, h.2.1, [])) ?_
  exact ((qt_lens (h.1 + h.2.1 + 258) (h.2.2 + 4)).bind (G := fun L _ σ => ((h.1, h.2.1, L), ownEnd (L, σ) h.1 h.2.1)) fun L =>
   ((qt_ownEnd L h.1 h.2.1).bind (G := fun _ _ σ => ((h.1, h.2.1, L), σ)) fun _ => Qt.pure _).congr fun _ _ => rfl).congr fun _ _ => rfl
 ·
  unfold ownT ownF headT
  generalize headF s σ = hd
  by_cases c : hd.st.why ≠ 0
  · simp only [if_pos c]
  · simp only [if_neg c]
theorem qt_kindM (b k : Nat) : Qt (kindM b k) := by
 by_cases h0 : k = 0
 ·
  subst h0
  exact (qt_plainHead.bind (G := fun n _ σ => ((⟨b == 1, n, none⟩ : Md), σ)) fun n => Qt.pure _).congr fun s σ => by unfold kindM; rw [if_pos rfl]
 ·
  by_cases h1 : k = 1
  · exact (Qt.pure (⟨b == 1, 0, some fixPl⟩ : Md)).congr fun s σ => by unfold kindM; rw [if_neg h0, if_pos h1]
  ·
   by_cases h2 : k = 2
   · exact (qt_own.bind (G := fun v _ σ => ((⟨b == 1, 0, some (ownPl v)⟩ : Md), σ)) fun n => Qt.pure _).congr fun s σ => by unfold kindM; rw [if_neg h0, if_neg h1, if_pos h2]
   · exact ((qt_stop 1).bind (G := fun _ _ σ => ((⟨b == 1, 0, none⟩ : Md), σ)) fun _ => Qt.pure _).congr fun s σ => by unfold kindM; rw [if_neg h0, if_neg h1, if_neg h2]; rfl
theorem qt_headOf2 {nf : ByteArray → St → Nat × St} (hn : Qt nf) : Qt (fun s σ => kindM (bitF s σ).1 (nf s (bitF s σ).2).1 s (nf s (bitF s σ).2).2) :=
 (qt_bit.bind (G := fun b s σ => kindM b (nf s σ).1 s (nf s σ).2) fun b => hn.bind (G := fun k s σ => kindM b k s σ) fun k => qt_kindM b k).congr fun _ _ => rfl
theorem qt_headM : Qt headM := (qt_headOf2 (nf := fun s σ => numF s 2 σ) (qt_num 2)).congr fun s σ => by unfold headM; rfl
/-- What gives up turns no text. -/
theorem putF_fail {σ : St} {c : UInt8} (h : (putF σ c).why ≠ 0) : (putF σ c).text = σ.text := by
 unfold putF at h ⊢
 by_cases h1 : σ.why ≠ 0
 · rw [if_pos h1]
 ·
  rw [if_neg h1] at h ⊢
  by_cases h2 : σ.text.length = 5000
  · rw [if_pos h2]
  ·
   rw [if_neg h2] at h
   exact absurd h h1
theorem pairEnd_fail {n back : Nat} {σ : St} (h : (pairEnd n back σ).why ≠ 0) : (pairEnd n back σ).text = σ.text := by
 unfold pairEnd at h ⊢
 by_cases h1 : σ.why ≠ 0
 · rw [if_pos h1]
 ·
  rw [if_neg h1] at h ⊢
  by_cases h2 : σ.text.length < back
  · rw [if_pos h2]; exact stopF_text _ _
  ·
   rw [if_neg h2] at h ⊢
   by_cases h3 : 5000 < σ.text.length + n
   · rw [if_pos h3]; exact stopF_text _ _
   ·
    rw [if_neg h3] at h
    exact absurd h h1
theorem pairF_fail {s : ByteArray} {c : Nat → ByteArray} {n y : Nat} {σ : St} (h : (pairF s c n y σ).why ≠ 0) : (pairF s c n y σ).text = σ.text := by
 have e1 := (qt_num (pairM y)).text s σ
 have e2 := (qt_sym c n).text s (numF s (pairM y) σ).2
 unfold pairF at h ⊢
 generalize numF s (pairM y) σ = q at h e1 e2 ⊢
 generalize symF s c n q.2 = k at h e2 ⊢
 unfold pairDist at h ⊢
 by_cases hd : (distSt k).why ≠ 0
 ·
  rw [if_pos hd]
  have e3 : (distSt k).text = k.2.text := by
   unfold distSt
   split
   · exact stopF_text _ _
   · rfl
  rw [e3, e2, e1]
 ·
  rw [if_neg hd] at h ⊢
  rw [pairEnd_fail h]
  exact ((qt_num (moreN 4 2 k.1.toNat)).text s k.2).trans (e2.trans e1)
theorem stepF_fail {s : ByteArray} {c : Nat → ByteArray} {n there : Nat} {k : Int × St} (h : (stepF s c n there k).2.why ≠ 0) : (stepF s c n there k).2.text = k.2.text := by
 unfold stepF at h ⊢
 by_cases h1 : k.2.why ≠ 0 ∨ k.1 = 256
 · rw [if_pos h1]
 ·
  rw [if_neg h1] at h ⊢
  by_cases h2 : k.1 < 256
  · rw [if_pos h2] at h ⊢; exact putF_fail h
  ·
   rw [if_neg h2] at h ⊢
   by_cases h3 : 285 < k.1 ∨ there = 0
   · rw [if_pos h3]; exact stopF_text _ _
   · rw [if_neg h3] at h ⊢; exact pairF_fail h
theorem stepM_fail {m : Md} {s : ByteArray} {σ : St} (h : (stepM m s σ).2.why ≠ 0) : (stepM m s σ).2.text = σ.text := by
 by_cases hb : 0 < m.bare
 ·
  rw [stepM_bare hb] at h ⊢
  have e := (qt_num 8).text s σ
  unfold bareM at h ⊢
  simp only at e h ⊢
  generalize numF s 8 σ = q at e h ⊢
  exact (putF_fail h).trans e
 ·
  cases hp : m.plan with
  |
   some p =>
   rw [stepM_sym (by omega) hp] at h ⊢
   have e := (qt_sym (codeT p.z1 p.n1) p.n1).text s σ
   unfold symM symP at h ⊢
   simp only at e h ⊢
   generalize symF s (codeT p.z1 p.n1) p.n1 σ = q at e h ⊢
   exact (stepF_fail h).trans e
  |
   none =>
   rw [stepM_head (by omega) hp]
   exact qt_headM.text s σ
/-- How a piece that gives up ends. -/
def Ends (s : ByteArray) (m : Md) (σ r : St) : Prop := ∃ m' σ', Goes s m σ r.why m' σ' ∧ σ'.text = r.text
theorem Ends.back {s : ByteArray} {m m1 : Md} {σ σ1 r : St} (h : Steps s m σ m1 σ1) (k : Ends s m1 σ1 r) : Ends s m σ r := by
 obtain ⟨m', σ', k1, k2⟩ := k
 exact ⟨m', σ', h _ _ _ k1, k2⟩
theorem Ends.now {s : ByteArray} {m : Md} {σ r : St} (h : ¬ m.over) (e : (stepM m s σ).2.why = r.why) (et : (stepM m s σ).2.text = r.text) (hy : r.why ≠ 0) : Ends s m σ r :=
 ⟨m, σ, by rw [← e]; exact Goes.stop h (by rw [e]; exact hy), by rw [← et, stepM_fail (by rw [e]; exact hy)]⟩
theorem bytes_goes (s : ByteArray) (l : Bool) : ∀ (k : Nat) (σ : St), σ.why = 0 → ((bytesF s k σ).why = 0 → Steps s ⟨l, k, none⟩ σ ⟨l, 0, none⟩ (bytesF s k σ)) ∧ ((bytesF s k σ).why ≠ 0 → Ends s ⟨l, k, none⟩ σ (bytesF s k σ))
 | 0, σ, hy => ⟨fun _ => Steps.refl _ _ _, fun h => absurd hy h⟩
 |
  k + 1, σ, hy => by
  have ho : ¬ (⟨l, k + 1, none⟩ : Md).over := fun h => by have := h.2.1; simp at this
  have est : stepM ⟨l, k + 1, none⟩ s σ = (⟨l, k, none⟩, putF (numF s 8 σ).2 (UInt8.ofNat (numF s 8 σ).1)) := by
   rw [stepM_bare (by show 0 < k + 1; omega)]; rfl
  have eb : bytesF s (k + 1) σ = bytesF s k (putF (numF s 8 σ).2 (UInt8.ofNat (numF s 8 σ).1)) := by
   simp only [bytesF]; rw [if_pos hy]
  rw [eb]
  generalize hq : putF (numF s 8 σ).2 (UInt8.ofNat (numF s 8 σ).1) = q at est
  by_cases hyq : q.why = 0
  ·
   obtain ⟨a, b⟩ := bytes_goes s l k q hyq
   have s1 : Steps s ⟨l, k + 1, none⟩ σ ⟨l, k, none⟩ q := Steps.one ho est hyq
   exact ⟨fun h => s1.trans (a h), fun h => Ends.back s1 (b h)⟩
  ·
   rw [bytesF_dead hyq]
   exact ⟨fun h => absurd h hyq, fun h => Ends.now ho (by rw [est]) (by rw [est]) h⟩
theorem coded_goes (s : ByteArray) (l : Bool) (p : Pl) : ∀ (f : Nat) (σ : St), σ.why = 0 → Fit s σ → restN s σ ≤ f →
 ((codedGo s (codeT p.z1 p.n1) p.n1 (codeT p.z2 p.n2) p.n2 f σ).why = 0 → Steps s ⟨l, 0, some p⟩ σ ⟨l, 0, none⟩ (codedGo s (codeT p.z1 p.n1) p.n1 (codeT p.z2 p.n2) p.n2 f σ)) ∧
 ((codedGo s (codeT p.z1 p.n1) p.n1 (codeT p.z2 p.n2) p.n2 f σ).why ≠ 0 → Ends s ⟨l, 0, some p⟩ σ (codedGo s (codeT p.z1 p.n1) p.n1 (codeT p.z2 p.n2) p.n2 f σ))
 | 0, σ, hy, _, hr => by unfold restN at hr; rw [if_pos hy] at hr; omega
 |
  f + 1, σ, hy, hf, hr => by
  have ho : ¬ (⟨l, 0, some p⟩ : Md).over := fun h => by have := h.2.2; simp at this
  have est : stepM ⟨l, 0, some p⟩ s σ = (if (symP p s σ).1 = true then ⟨l, 0, none⟩ else ⟨l, 0, some p⟩, (symP p s σ).2) := by
   rw [stepM_sym rfl rfl]; rfl
  have hrs : (symF s (codeT p.z1 p.n1) p.n1 σ).2.why = 0 → restN s (symP p s σ).2 < restN s σ := fun h => restN_sym hf hy h
  have hdd : (symF s (codeT p.z1 p.n1) p.n1 σ).2.why ≠ 0 → symP p s σ = (true, (symF s (codeT p.z1 p.n1) p.n1 σ).2) := fun h => by unfold symP stepF; rw [if_pos (Or.inl h)]
  have hfit : Fit s (symP p s σ).2 := (gd_symP p).fit s σ hf
  have eb : codedGo s (codeT p.z1 p.n1) p.n1 (codeT p.z2 p.n2) p.n2 (f + 1) σ = if (symP p s σ).1 = true then (symP p s σ).2 else codedGo s (codeT p.z1 p.n1) p.n1 (codeT p.z2 p.n2) p.n2 f (symP p s σ).2 := by
   simp only [codedGo]; rw [if_neg (by omega)]; rfl
  rw [eb]
  generalize symP p s σ = q at est hrs hdd hfit
  obtain ⟨b, τ⟩ := q
  simp only at est hrs hfit
  by_cases hb : b = true
  ·
   subst hb
   simp only [if_true] at est ⊢
   exact ⟨fun h => Steps.one ho est h, fun h => Ends.now ho (by rw [est]) (by rw [est]) h⟩
  ·
   have hb' : b = false := by simpa using hb
   subst hb'
   simp only [Bool.false_eq_true, if_false] at est ⊢
   have hsy : (symF s (codeT p.z1 p.n1) p.n1 σ).2.why = 0 := by
    by_cases c : (symF s (codeT p.z1 p.n1) p.n1 σ).2.why = 0
    · exact c
    · have := hdd c; simp at this
   have hlt := hrs hsy
   by_cases hyq : τ.why = 0
   ·
    obtain ⟨a, c⟩ := coded_goes s l p f τ hyq hfit (by omega)
    have s1 : Steps s ⟨l, 0, some p⟩ σ ⟨l, 0, some p⟩ τ := Steps.one ho est hyq
    exact ⟨fun h => s1.trans (a h), fun h => Ends.back s1 (c h)⟩
   ·
    rw [codedGo_dead hyq]
    exact ⟨fun h => absurd h hyq, fun h => Ends.now ho (by rw [est]) (by rw [est]) h⟩
theorem ownBlk_eq (s : ByteArray) (σ : St) : ownBlk s σ = codedGo s (codeT (ownPl (ownT s σ).1).z1 (ownPl (ownT s σ).1).n1) (ownPl (ownT s σ).1).n1 (codeT (ownPl (ownT s σ).1).z2 (ownPl (ownT s σ).1).n2) (ownPl (ownT s σ).1).n2 (8 * s.size + 1) (ownT s σ).2 := by
 unfold ownBlk codedF ownPl ownT
 generalize headF s σ = hd
 generalize ownF s σ = o
 rfl
/-- A block behind its head. -/
theorem kind_goes (s : ByteArray) (b k : Nat) (σ : St) (hy : σ.why = 0) (hf : Fit s σ) (m : Md) (τ : St) (ho : ¬ m.over) (hst : stepM m s τ = kindM b k s σ) :
 ((blockF s k σ).why = 0 → Steps s m τ ⟨b == 1, 0, none⟩ (blockF s k σ)) ∧ ((blockF s k σ).why ≠ 0 → Ends s m τ (blockF s k σ)) := by
 by_cases h0 : k = 0
 ·
  subst h0
  have eb : blockF s 0 σ = bytesF s (plainHead s σ).1 (plainHead s σ).2 := by unfold blockF plainF; rw [if_pos rfl]
  have ek : kindM b 0 s σ = (⟨b == 1, (plainHead s σ).1, none⟩, (plainHead s σ).2) := by unfold kindM; rw [if_pos rfl]
  rw [eb]
  rw [ek] at hst
  generalize plainHead s σ = q at hst
  obtain ⟨n, σ1⟩ := q
  by_cases hy1 : σ1.why = 0
  ·
   obtain ⟨a, c⟩ := bytes_goes s (b == 1) n σ1 hy1
   have s1 : Steps s m τ ⟨b == 1, n, none⟩ σ1 := Steps.one ho hst hy1
   exact ⟨fun h => s1.trans (a h), fun h => Ends.back s1 (c h)⟩
  ·
   simp only
   rw [bytesF_dead hy1]
   exact ⟨fun h => absurd h hy1, fun h => Ends.now ho (by rw [hst]) (by rw [hst]) h⟩
 ·
  by_cases h1 : k = 1
  ·
   subst h1
   have eb : blockF s 1 σ = codedGo s (codeT fixPl.z1 fixPl.n1) fixPl.n1 (codeT fixPl.z2 fixPl.n2) fixPl.n2 (8 * s.size + 1) σ := by unfold blockF; rw [if_neg (by omega), if_pos rfl]; rfl
   have ek : kindM b 1 s σ = (⟨b == 1, 0, some fixPl⟩, σ) := by unfold kindM; rw [if_neg (by omega), if_pos rfl]
   rw [eb]
   rw [ek] at hst
   obtain ⟨a, c⟩ := coded_goes s (b == 1) fixPl (8 * s.size + 1) σ hy hf (restN_le s σ)
   have s1 : Steps s m τ ⟨b == 1, 0, some fixPl⟩ σ := Steps.one ho hst hy
   exact ⟨fun h => s1.trans (a h), fun h => Ends.back s1 (c h)⟩
  ·
   by_cases h2 : k = 2
   ·
    subst h2
    have eb : blockF s 2 σ = codedGo s (codeT (ownPl (ownT s σ).1).z1 (ownPl (ownT s σ).1).n1) (ownPl (ownT s σ).1).n1 (codeT (ownPl (ownT s σ).1).z2 (ownPl (ownT s σ).1).n2) (ownPl (ownT s σ).1).n2 (8 * s.size + 1) (ownT s σ).2 := by
     rw [← ownBlk_eq]; unfold blockF; rw [if_neg (by omega), if_neg (by omega), if_pos rfl]
    have ek : kindM b 2 s σ = (⟨b == 1, 0, some (ownPl (ownT s σ).1)⟩, (ownT s σ).2) := by unfold kindM; rw [if_neg (by omega), if_neg (by omega), if_pos rfl]
    have hfo : Fit s (ownT s σ).2 := gd_own.fit s σ hf
    rw [eb]
    rw [ek] at hst
    generalize ownT s σ = q at hst hfo
    obtain ⟨v, σ1⟩ := q
    simp only at hst hfo ⊢
    generalize ownPl v = p at hst
    by_cases hy1 : σ1.why = 0
    ·
     obtain ⟨a, c⟩ := coded_goes s (b == 1) p (8 * s.size + 1) σ1 hy1 hfo (restN_le s σ1)
     have s1 : Steps s m τ ⟨b == 1, 0, some p⟩ σ1 := Steps.one ho hst hy1
     exact ⟨fun h => s1.trans (a h), fun h => Ends.back s1 (c h)⟩
    ·
     rw [codedGo_dead hy1]
     exact ⟨fun h => absurd h hy1, fun h => Ends.now ho (by rw [hst]) (by rw [hst]) h⟩
   ·
    have eb : blockF s k σ = stopF σ 1 := by unfold blockF; rw [if_neg h0, if_neg h1, if_neg h2]
    have ek : kindM b k s σ = (⟨b == 1, 0, none⟩, stopF σ 1) := by unfold kindM; rw [if_neg h0, if_neg h1, if_neg h2]
    rw [eb]
    rw [ek] at hst
    exact ⟨fun h => absurd h (stopF_why (by omega)), fun h => Ends.now ho (by rw [hst]) (by rw [hst]) h⟩
theorem blockF_finOf (s : ByteArray) (k : Nat) (σ : St) (hn : σ.fin = false) : (blockF s k σ).fin = false := by
 -- reading never tells an end by itself
 have h1 : ∀ n τ, (bytesF s n τ).fin = τ.fin := by
  intro n
  induction n with
  | zero => intro τ; rfl
  |
   succ n ih =>
   intro τ
   simp only [bytesF]
   split
   ·
    rw [ih]
    have e := (sf_num 8).fin s τ
    generalize numF s 8 τ = q at e ⊢
    exact ((sf_put _).fin s q.2).trans e
   · rfl
 have h2 : ∀ (p : Pl) f τ, (codedGo s (codeT p.z1 p.n1) p.n1 (codeT p.z2 p.n2) p.n2 f τ).fin = τ.fin := by
  intro p f
  induction f with
  | zero => intro τ; rfl
  |
   succ f ih =>
   intro τ
   have e := (sf_symP p).fin s τ
   unfold symP at e
   simp only [codedGo]
   split
   · rfl
   ·
    split
    · exact e
    · rw [ih]; exact e
 unfold blockF
 split
 ·
  have e := sf_plainHead.fin s σ
  unfold plainF
  rw [h1]
  exact e.trans hn
 ·
  split
  · exact (h2 fixPl _ σ).trans hn
  ·
   split
   ·
    rw [ownBlk_eq, h2]
    exact (sf_own.fin s σ).trans hn
   · exact ((sf_stop 1).fin s σ).trans hn
theorem run_goes (s : ByteArray) : ∀ (f : Nat) (σ : St), σ.why = 0 → σ.fin = false → Fit s σ → restN s σ ≤ f →
 ∃ m' σ', Goes s M0 σ (runGo s f σ).why m' σ' ∧ σ'.text = (runGo s f σ).text ∧ ((runGo s f σ).why = 0 → σ'.pos = (runGo s f σ).pos ∧ (runGo s f σ).fin = true) ∧ ((runGo s f σ).why ≠ 0 → (runGo s f σ).fin = false)
 | 0, σ, hy, _, _, hr => by unfold restN at hr; rw [if_pos hy] at hr; omega
 |
  f + 1, σ, hy, hn, hf, hr => by
  obtain ⟨q, hq⟩ : ∃ q, numF s 2 (bitF s σ).2 = q := ⟨_, rfl⟩
  have est : stepM M0 s σ = kindM (bitF s σ).1 q.1 s q.2 := by rw [stepM_head rfl rfl]; unfold headM; rw [hq]
  have hf2 : Fit s q.2 := by rw [← hq]; exact Fit.num 2 hf.bit
  have hn2 : q.2.fin = false := by rw [← hq]; exact (((sf_num 2).fin s _).trans (sf_bit.fin s σ)).trans hn
  have ers : runStep s σ = if q.2.why ≠ 0 then (true, q.2) else (false, { blockF s q.1 q.2 with fin := decide ((blockF s q.1 q.2).why = 0 ∧ (bitF s σ).1 = 1) }) := by unfold runStep; rw [hq]
  have hrr := runStep_rest (s := s) hf hy
  have hrf := runStep_fit (s := s) hf
  rw [ers] at hrr hrf
  simp only [runGo]
  rw [if_pos ⟨hy, hn⟩, ers]
  clear hq ers
  obtain ⟨k, τ⟩ := q
  have ew : τ.why ≠ 0 → (stepM M0 s σ).2.why = τ.why ∧ (stepM M0 s σ).2.text = τ.text := fun h => by
   rw [est]; exact (gd_kindM _ _).dead s _ h
  simp only at est hf2 hn2 hrr hrf ⊢
  by_cases hyt : τ.why ≠ 0
  ·
   rw [if_pos hyt]
   simp only [if_true]
   obtain ⟨e1, e2⟩ := ew hyt
   obtain ⟨m', σ', g1, g2⟩ := Ends.now M0_over e1 e2 hyt
   exact ⟨m', σ', g1, g2, fun h => absurd h hyt, fun _ => hn2⟩
  ·
   rw [if_neg hyt] at hrr hrf ⊢
   simp only [Bool.false_eq_true, if_false] at hrr hrf ⊢
   have hyt' : τ.why = 0 := by omega
   obtain ⟨a, c⟩ := kind_goes s (bitF s σ).1 k τ hyt' hf2 M0 σ M0_over est
   by_cases hb : (blockF s k τ).why = 0
   ·
    have hfb := blockF_finOf s k τ hn2
    have s1 := a hb
    have hrr' := hrr trivial
    generalize blockF s k τ = r at hrr' hrf hb hfb s1 ⊢
    by_cases hl : (bitF s σ).1 = 1
    ·
     have ef : runGo s f { r with fin := decide (r.why = 0 ∧ (bitF s σ).1 = 1) } = { r with fin := true } := by
      have e1 : decide (r.why = 0 ∧ (bitF s σ).1 = 1) = true := by simp [hb, hl]
      rw [e1]
      cases f with
      | zero => rfl
      | succ f => simp only [runGo]; rw [if_neg (by simp)]
     rw [ef]
     refine ⟨⟨true, 0, none⟩, r, ?_, rfl, fun _ => ⟨rfl, rfl⟩, fun h => absurd hb h⟩
     have : ((bitF s σ).1 == 1) = true := by simp [hl]
     rw [this] at s1
     have k2 := s1 0 ⟨true, 0, none⟩ r (Goes.done ⟨rfl, rfl, rfl⟩)
     show Goes s M0 σ r.why _ _
     rw [hb]
     exact k2
    ·
     have er : ({ r with fin := decide (r.why = 0 ∧ (bitF s σ).1 = 1) } : St) = r := by
      have e1 : decide (r.why = 0 ∧ (bitF s σ).1 = 1) = r.fin := by rw [hfb]; simp [hl]
      rw [e1]
     rw [er] at hrr' hrf ⊢
     have : ((bitF s σ).1 == 1) = false := by simp [hl]
     rw [this] at s1
     obtain ⟨m', σ', g1, g2⟩ := run_goes s f r hb hfb hrf (by omega)
     exact ⟨m', σ', s1 _ _ _ g1, g2⟩
   ·
    obtain ⟨m', σ', g1, g2⟩ := c hb
    generalize blockF s k τ = r at hb g1 g2 ⊢
    have er : runGo s f { r with fin := decide (r.why = 0 ∧ (bitF s σ).1 = 1) } = { r with fin := false } := by
     have e1 : decide (r.why = 0 ∧ (bitF s σ).1 = 1) = false := by simp [hb]
     rw [e1]
     cases f with
     | zero => rfl
     | succ f => simp only [runGo]; rw [if_neg (fun h => hb h.1)]
    rw [er]
    exact ⟨m', σ', g1, g2, fun h => absurd h hb, fun _ => rfl⟩
/-- A stream read at once is the same stream read step by step. -/
theorem runF_goes (s : ByteArray) : ∃ m' σ', Goes s M0 start (runF s).why m' σ' ∧ σ'.text = (runF s).text ∧ ((runF s).why = 0 → σ'.pos = (runF s).pos ∧ (runF s).fin = true) ∧ ((runF s).why ≠ 0 → (runF s).fin = false) :=
 run_goes s (8 * s.size + 1) start rfl rfl (start_fit s) (restN_le s start)
theorem runF_of {s : ByteArray} {y : Nat} {m' : Md} {σ' : St} (h : Goes s M0 start y m' σ') : (runF s).why = y ∧ (runF s).text = σ'.text ∧ (runF s).fin = decide (y = 0) ∧ (y = 0 → (runF s).pos = σ'.pos) := by
 obtain ⟨m2, σ2, g, ht, h0, h1⟩ := runF_goes s
 obtain ⟨e1, e2, e3⟩ := g.one h
 subst e1 e3
 refine ⟨rfl, ht.symm, ?_, fun e => (h0 e).1.symm⟩
 by_cases e : (runF s).why = 0
 · rw [(h0 e).2]; simp [e]
 · rw [h1 e]; simp [e]
end Go.Proofs.YtecddphahiadlaaGreatDoor
