import Derived.Test.YtecddphahiadlaaGreatDoorCRunF
/- More bytes: what is read of some bytes is read of more, and no end of bytes is met but the short ones' own: plain reckoning. -/
namespace Go.Proofs.YtecddphahiadlaaGreatDoor
open Go.RowKit
/-- s' are first bytes of s. -/
structure Pfx (s' s : ByteArray) : Prop where
 size : s'.size ≤ s.size
 bit : ∀ p, p < 8 * s'.size → bitOf s' p = bitOf s p
/-- The short one has come to its end, with a first part of the text. -/
def Dm (σ' σ : St) : Prop := σ'.why = 2 ∧ σ'.text <+: σ.text
/-- A reader of streams. -/
structure Gd {α : Type} (G : ByteArray → St → α × St) : Prop where
 dead : ∀ s σ, σ.why ≠ 0 → (G s σ).2.why = σ.why ∧ (G s σ).2.text = σ.text
 grow : ∀ s σ, σ.text <+: (G s σ).2.text
 fit : ∀ s σ, Fit s σ → Fit s (G s σ).2
 mono : ∀ s' s, Pfx s' s → ∀ σ, Fit s' σ → G s' σ = G s σ ∨ Dm (G s' σ).2 (G s σ).2
namespace Gd
variable {α β : Type}
theorem bind {F : ByteArray → St → α × St} {G : α → ByteArray → St → β × St} (hF : Gd F) (hG : ∀ a, Gd (G a)) : Gd (fun s σ => G (F s σ).1 s (F s σ).2) := by
 refine ⟨fun s σ h => ?_, fun s σ => ?_, fun s σ h => ?_, fun s' s hp σ hf => ?_⟩
 ·
  obtain ⟨a, b⟩ := hF.dead s σ h
  obtain ⟨c, d⟩ := (hG (F s σ).1).dead s (F s σ).2 (by rw [a]; exact h)
  exact ⟨c.trans a, d.trans b⟩
 · exact (hF.grow s σ).trans ((hG _).grow s _)
 · exact (hG _).fit s _ (hF.fit s σ h)
 ·
  rcases hF.mono s' s hp σ hf with e | ⟨e1, e2⟩
  ·
   have h1 := hF.fit s' σ hf
   show G (F s' σ).1 s' (F s' σ).2 = G (F s σ).1 s (F s σ).2 ∨ Dm (G (F s' σ).1 s' (F s' σ).2).2 (G (F s σ).1 s (F s σ).2).2
   rw [← e]
   exact (hG _).mono s' s hp _ h1
  ·
   right
   obtain ⟨c, d⟩ := (hG (F s' σ).1).dead s' (F s' σ).2 (by rw [e1]; omega)
   exact ⟨c.trans e1, by show (G (F s' σ).1 s' (F s' σ).2).2.text <+: _; rw [d]; exact e2.trans ((hG _).grow s _)⟩
/-- A step that reads no bytes. -/
theorem still {f : St → α × St} (hd : ∀ σ, σ.why ≠ 0 → (f σ).2.why = σ.why ∧ (f σ).2.text = σ.text) (hg : ∀ σ, σ.text <+: (f σ).2.text) (hf : ∀ s σ, Fit s σ → Fit s (f σ).2) : Gd (fun _ σ => f σ) :=
 ⟨fun _ σ h => hd σ h, fun _ σ => hg σ, fun s σ h => hf s σ h, fun _ _ _ _ _ => Or.inl rfl⟩
theorem pure (a : α) : Gd (fun _ σ => (a, σ)) := still (fun _ _ => ⟨rfl, rfl⟩) (fun _ => List.prefix_refl _) (fun _ _ h => h)
theorem ite (p : St → Prop) [∀ σ, Decidable (p σ)] {F G : ByteArray → St → α × St} (hF : Gd F) (hG : Gd G) : Gd (fun s σ => if p σ then F s σ else G s σ) := by
 refine ⟨fun s σ h => ?_, fun s σ => ?_, fun s σ h => ?_, fun s' s hp σ hf => ?_⟩
 ·
  split
  · exact hF.dead s σ h
  · exact hG.dead s σ h
 ·
  show σ.text <+: (if p σ then F s σ else G s σ).2.text
  split
  · exact hF.grow s σ
  · exact hG.grow s σ
 ·
  show Fit s (if p σ then F s σ else G s σ).2
  split
  · exact hF.fit s σ h
  · exact hG.fit s σ h
 ·
  by_cases c : p σ
  · simp only [if_pos c]; exact hF.mono s' s hp σ hf
  · simp only [if_neg c]; exact hG.mono s' s hp σ hf
theorem congr {F G : ByteArray → St → α × St} (hF : Gd F) (h : ∀ s σ, G s σ = F s σ) : Gd G := by
 have e : G = F := funext fun s => funext fun σ => h s σ
 rw [e]; exact hF
end Gd
theorem gd_bit : Gd bitF := by
 refine ⟨fun s σ h => by rw [bitF_dead h]; exact ⟨rfl, rfl⟩, fun s σ => by rw [bitF_text]; exact List.prefix_refl _, fun s σ h => h.bit, fun s' s hp σ hf => ?_⟩
 have hz := hp.size
 by_cases hy : σ.why = 0
 ·
  by_cases h1 : 8 * s'.size ≤ σ.pos
  ·
   right
   rw [bitF_end hy h1]
   exact ⟨rfl, by rw [bitF_text]; exact List.prefix_refl _⟩
  ·
   left
   rw [bitF_go hy (by omega), bitF_go hy (by omega), hp.bit _ (by omega)]
 ·
  left
  rw [bitF_dead hy, bitF_dead hy]
theorem gd_num : ∀ n, Gd (fun s σ => numF s n σ)
 | 0 => Gd.pure 0
 | n + 1 => gd_bit.bind (G := fun b s σ => (b + 2 * (numF s n σ).1, (numF s n σ).2)) fun b => (gd_num n).bind (G := fun r _ σ => (b + 2 * r, σ)) fun _ => Gd.pure _
/-- A step that only tells a state. -/
def un (f : St → St) (σ : St) : Unit × St := ((), f σ)
def unS (f : ByteArray → St → St) (s : ByteArray) (σ : St) : Unit × St := ((), f s σ)
theorem stopF_text (σ : St) (y : Nat) : (stopF σ y).text = σ.text := by unfold stopF; split <;> rfl
theorem stopF_dead {σ : St} (h : σ.why ≠ 0) (y : Nat) : stopF σ y = σ := by unfold stopF; rw [if_neg h]
theorem gd_stop (y : Nat) : Gd (fun _ σ => un (fun σ => stopF σ y) σ) :=
 Gd.still (f := un (fun σ => stopF σ y)) (fun σ h => by show (stopF σ y).why = _ ∧ (stopF σ y).text = _; rw [stopF_dead h]; exact ⟨rfl, rfl⟩) (fun σ => by show _ <+: (stopF σ y).text; rw [stopF_text]; exact List.prefix_refl _) (fun _ _ h => h.stop y)
theorem gd_put (c : UInt8) : Gd (fun _ σ => un (fun σ => putF σ c) σ) := by
 refine Gd.still (f := un (fun σ => putF σ c)) (fun σ h => ?_) (fun σ => ?_) (fun _ _ h => h.put c)
 ·
  show (putF σ c).why = _ ∧ (putF σ c).text = _
  unfold putF; rw [if_pos h]; exact ⟨rfl, rfl⟩
 ·
  show _ <+: (putF σ c).text
  unfold putF
  split
  · exact List.prefix_refl _
  ·
   split
   · exact List.prefix_refl _
   · exact List.prefix_append _ _
theorem gd_align : Gd (fun _ σ => un alignF σ) := Gd.still (f := un alignF) (fun _ _ => ⟨rfl, rfl⟩) (fun _ => List.prefix_refl _) (fun _ _ h => h.align)
theorem gd_bytes : ∀ k, Gd (unS fun s σ => bytesF s k σ)
 | 0 => (Gd.pure ()).congr fun _ _ => rfl
 | k + 1 => (Gd.ite (fun σ => σ.why = 0) ((gd_num 8).bind (G := fun v s σ => unS (fun s σ => bytesF s k σ) s (putF σ (UInt8.ofNat v))) fun v => (gd_put (UInt8.ofNat v)).bind (G := fun _ s σ => unS (fun s σ => bytesF s k σ) s σ) fun _ => gd_bytes k) (Gd.pure ())).congr fun s σ => by
  unfold unS
  simp only [bytesF]
  split <;> rfl
def headEnd (a b : Nat) (σ : St) : St := if σ.why = 0 ∧ a + b ≠ 65535 then stopF σ 1 else σ
theorem gd_headEnd (a b : Nat) : Gd (fun _ σ => un (headEnd a b) σ) :=
 (Gd.ite (fun σ => σ.why = 0 ∧ a + b ≠ 65535) (gd_stop 1) (Gd.pure ())).congr fun s σ => by
  unfold un headEnd
  split <;> rfl
theorem plain_eq (s : ByteArray) (σ : St) : plainF s σ = bytesF s (numF s 16 (alignF σ)).1 (headEnd (numF s 16 (alignF σ)).1 (numF s 16 (numF s 16 (alignF σ)).2).1 (numF s 16 (numF s 16 (alignF σ)).2).2) := by
 unfold plainF plainHead headEnd
 simp only
theorem gd_plainOf (nf : ByteArray → St → Nat × St) (hn : Gd nf) : Gd (unS fun s σ => bytesF s (nf s (alignF σ)).1 (headEnd (nf s (alignF σ)).1 (nf s (nf s (alignF σ)).2).1 (nf s (nf s (alignF σ)).2).2)) :=
 (gd_align.bind (G := fun _ s σ => unS (fun s σ => bytesF s (nf s σ).1 (headEnd (nf s σ).1 (nf s (nf s σ).2).1 (nf s (nf s σ).2).2)) s σ) fun _ =>
  (hn.bind (G := fun a s σ => unS (fun s σ => bytesF s a (headEnd a (nf s σ).1 (nf s σ).2)) s σ) fun a =>
   (hn.bind (G := fun b s σ => unS (fun s σ => bytesF s a (headEnd a b σ)) s σ) fun b =>
    ((gd_headEnd a b).bind (G := fun _ s σ => unS (fun s σ => bytesF s a σ) s σ) fun _ => gd_bytes a).congr fun _ _ => rfl).congr fun _ _ => rfl).congr fun _ _ => rfl).congr fun _ _ => rfl
theorem gd_plain : Gd (unS plainF) := by
 have e : plainF = fun s σ => bytesF s (numF s 16 (alignF σ)).1 (headEnd (numF s 16 (alignF σ)).1 (numF s 16 (numF s 16 (alignF σ)).2).1 (numF s 16 (numF s 16 (alignF σ)).2).2) := funext fun s => funext fun σ => plain_eq s σ
 rw [e]
 exact gd_plainOf (fun s σ => numF s 16 σ) (gd_num 16)
theorem gd_symGo (c : Nat → ByteArray) (n : Nat) : ∀ (f : Nat) (cur : ByteArray), Gd (fun s σ => symGo s c n f cur σ)
 | 0, _ => Gd.pure (-1)
 |
  f + 1, cur => by
  simp only [symGo]
  cases hitF c cur n 0 with
  | some i => exact Gd.pure (i : Int)
  |
   none =>
   by_cases h : someB c cur n = true
   ·
    simp only [if_pos h]
    exact gd_bit.bind (G := fun b s σ => if σ.why = 0 then symGo s c n f (letB cur b) σ else (-1, σ)) fun b => Gd.ite (fun σ => σ.why = 0) (gd_symGo c n f (letB cur b)) (Gd.pure (-1))
   ·
    simp only [if_neg h]
    exact (gd_stop 1).bind (G := fun _ _ σ => ((-1 : Int), σ)) fun _ => Gd.pure (-1)
theorem gd_sym (c : Nat → ByteArray) (n : Nat) : Gd (fun s σ => symF s c n σ) := gd_symGo c n 17 .empty
theorem copyF_pre (back : Nat) : ∀ (n : Nat) (t : List UInt8), t <+: copyF back n t
 | 0, _ => List.prefix_refl _
 | n + 1, t => (List.prefix_append t _).trans (copyF_pre back n _)
theorem gd_pairEnd (n back : Nat) : Gd (fun _ σ => un (pairEnd n back) σ) := by
 refine Gd.still (f := un (pairEnd n back)) (fun σ h => ?_) (fun σ => ?_) (fun _ _ h => h.pairEnd)
 ·
  show (pairEnd n back σ).why = _ ∧ (pairEnd n back σ).text = _
  unfold pairEnd; rw [if_pos h]; exact ⟨rfl, rfl⟩
 ·
  show _ <+: (pairEnd n back σ).text
  unfold pairEnd
  split
  · exact List.prefix_refl _
  ·
   split
   · rw [stopF_text]; exact List.prefix_refl _
   ·
    split
    · rw [stopF_text]; exact List.prefix_refl _
    · exact copyF_pre _ _ _
theorem gd_pairDist (n : Nat) (k : Int) : Gd (unS fun s σ => pairDist s n (k, σ)) := by
 refine (Gd.ite (fun σ => (distSt (k, σ)).why ≠ 0) (Gd.ite (fun σ => σ.why = 0 ∧ 29 < k) (gd_stop 1) (Gd.pure ())) ((gd_num (moreN 4 2 k.toNat)).bind (G := fun v _ σ => un (pairEnd n (baseN 1 4 2 k.toNat + v)) σ) fun v => gd_pairEnd n _)).congr fun s σ => ?_
 unfold unS pairDist
 simp only
 split
 ·
  unfold distSt
  split <;> rfl
 · rfl
theorem gd_pair (c : Nat → ByteArray) (n y : Nat) : Gd (unS fun s σ => pairF s c n y σ) :=
 ((
  gd_num (pairM y)).bind (G := fun v s σ => unS (fun s σ => pairDist s (pairN y + v) (symF s c n σ)) s σ) fun v =>
  ((gd_sym c n).bind (G := fun k s σ => unS (fun s σ => pairDist s (pairN y + v) (k, σ)) s σ) fun k => gd_pairDist _ k).congr fun _ _ => rfl).congr fun _ _ => rfl
theorem gd_step (c : Nat → ByteArray) (n there : Nat) (k : Int) : Gd (fun s σ => stepF s c n there (k, σ)) := by
 refine (Gd.ite (fun σ => σ.why ≠ 0 ∨ k = 256) (Gd.pure true) (Gd.ite (fun _ => k < 256) ((gd_put (UInt8.ofNat k.toNat)).bind (G := fun _ _ σ => (false, σ)) fun _ => Gd.pure false) (Gd.ite (fun _ => 285 < k ∨ there = 0) ((gd_stop 1).bind (G := fun _ _ σ => (false, σ)) fun _ => Gd.pure false) ((gd_pair c n k.toNat).bind (G := fun _ _ σ => (false, σ)) fun _ => Gd.pure false)))).congr fun s σ => ?_
 rfl
theorem gd_codedGo (l : Nat → ByteArray) (nl : Nat) (d : Nat → ByteArray) (nd : Nat) : ∀ f, Gd (unS fun s σ => codedGo s l nl d nd f σ)
 | 0 => (Gd.pure ()).congr fun _ _ => rfl
 |
  f + 1 => by
  refine (Gd.ite (fun σ => σ.why ≠ 0) (Gd.pure ()) (((gd_sym l nl).bind (G := fun k s σ => stepF s d nd (thereN d nd) (k, σ)) fun k => gd_step d nd _ k).bind (G := fun b s σ => if b = true then ((), σ) else unS (fun s σ => codedGo s l nl d nd f σ) s σ) fun b => ?_)).congr fun s σ => ?_
  ·
   cases b
   · simp only [Bool.false_eq_true, if_false]; exact gd_codedGo l nl d nd f
   · simp only [if_true]; exact Gd.pure ()
  ·
   unfold unS
   simp only [codedGo]
   split
   · rfl
   · split <;> rfl
/-- Enough rounds are enough. -/
theorem codedGo_more (s : ByteArray) (l : Nat → ByteArray) (nl : Nat) (d : Nat → ByteArray) (nd : Nat) : ∀ (f : Nat) (σ : St), Fit s σ → restN s σ ≤ f → ∀ k, codedGo s l nl d nd (f + k) σ = codedGo s l nl d nd f σ
 |
  0, σ, hf, hr, k => by
  have hy : σ.why ≠ 0 := fun h => by unfold restN at hr; rw [if_pos h] at hr; omega
  rw [codedGo_dead hy, codedGo_dead hy]
 |
  f + 1, σ, hf, hr, k => by
  rw [show f + 1 + k = (f + k) + 1 from by omega]
  simp only [codedGo]
  by_cases hy : σ.why ≠ 0
  · rw [if_pos hy, if_pos hy]
  ·
   rw [if_neg hy, if_neg hy]
   by_cases hs : (symF s l nl σ).2.why = 0
   ·
    have h1 := restN_sym (l := l) (nl := nl) (c := d) (n := nd) (there := thereN d nd) hf (by omega) hs
    split
    · rfl
    · exact codedGo_more s l nl d nd f _ (hf.symF.stepF) (by omega) k
   ·
    have e : (stepF s d nd (thereN d nd) (symF s l nl σ)).1 = true := by unfold stepF; rw [if_pos (Or.inl hs)]
    rw [if_pos e, if_pos e]
theorem restN_le (s : ByteArray) (σ : St) : restN s σ ≤ 8 * s.size + 1 := by unfold restN; split <;> omega
theorem gd_coded (l : Nat → ByteArray) (nl : Nat) (d : Nat → ByteArray) (nd : Nat) : Gd (unS fun s σ => codedF s l nl d nd σ) := by
 refine ⟨fun s σ h => (gd_codedGo l nl d nd (8 * s.size + 1)).dead s σ h, fun s σ => (gd_codedGo l nl d nd (8 * s.size + 1)).grow s σ, fun s σ h => (gd_codedGo l nl d nd (8 * s.size + 1)).fit s σ h, fun s' s hp σ hf => ?_⟩
 have hz := hp.size
 have e : codedF s' l nl d nd σ = codedGo s' l nl d nd (8 * s.size + 1) σ := by
  unfold codedF
  rw [show 8 * s.size + 1 = 8 * s'.size + 1 + (8 * s.size - 8 * s'.size) from by omega, codedGo_more s' l nl d nd _ σ hf (restN_le s' σ)]
 have h := (gd_codedGo l nl d nd (8 * s.size + 1)).mono s' s hp σ hf
 show ((), codedF s' l nl d nd σ) = ((), codedF s l nl d nd σ) ∨ Dm (codedF s' l nl d nd σ) (codedF s l nl d nd σ)
 rw [e]
 exact h
/- More bytes: kind 2, blocks, and the whole stream: plain reckoning. -/
theorem gd_stop29 (a : Nat) : Gd (fun _ σ => un (fun σ => stop29 (a, σ)) σ) :=
 (Gd.ite (fun σ => σ.why = 0 ∧ 29 < a) (gd_stop 1) (Gd.pure ())).congr fun s σ => by
  by_cases h : σ.why = 0 ∧ 29 < a
  · simp only [un, stop29, if_pos h]
  · simp only [un, stop29, if_neg h]
def headT (s : ByteArray) (σ : St) : (Nat × Nat × Nat) × St := (((headF s σ).a, (headF s σ).b, (headF s σ).c), (headF s σ).st)
def headOf (n5 n4 : ByteArray → St → Nat × St) (s : ByteArray) (σ : St) : (Nat × Nat × Nat) × St :=
 (((n5 s σ).1, (n5 s (stop29 (n5 s σ))).1, (n4 s (stop29 (n5 s (stop29 (n5 s σ))))).1), (n4 s (stop29 (n5 s (stop29 (n5 s σ))))).2)
theorem gd_headOf {n5 n4 : ByteArray → St → Nat × St} (h5 : Gd n5) (h4 : Gd n4) : Gd (headOf n5 n4) :=
 (h5.bind (G := fun a s σ => ((a, (n5 s (stop29 (a, σ))).1, (n4 s (stop29 (n5 s (stop29 (a, σ))))).1), (n4 s (stop29 (n5 s (stop29 (a, σ))))).2)) fun a =>
  ((
   gd_stop29 a).bind (G := fun _ s σ => ((a, (n5 s σ).1, (n4 s (stop29 (n5 s σ))).1), (n4 s (stop29 (n5 s σ))).2)) fun _ =>
   (h5.bind (G := fun b s σ => ((a, b, (n4 s (stop29 (b, σ))).1), (n4 s (stop29 (b, σ))).2)) fun b =>
    ((
     gd_stop29 b).bind (G := fun _ s σ => ((a, b, (n4 s σ).1), (n4 s σ).2)) fun _ =>
     (h4.bind (G := fun c _ σ => ((a, b, c), σ)) fun c => Gd.pure (a, b, c)).congr fun _ _ => rfl).congr fun _ _ => rfl).congr fun _ _ => rfl).congr fun _ _ => rfl).congr fun _ _ => rfl
theorem gd_head : Gd headT := (gd_headOf (n5 := fun s σ => numF s 5 σ) (n4 := fun s σ => numF s 4 σ) (gd_num 5) (gd_num 4)).congr fun s σ => by
 unfold headT headF headOf
 simp only
theorem gd_headGo : ∀ (r i : Nat) (f : Nat → Nat), Gd (fun s σ => headGo s r i f σ)
 | 0, _, f => Gd.pure f
 |
  r + 1, i, f => ((gd_num 3).bind (G := fun v s σ => headGo s r (i + 1) (fun j => if j = ordN i then v else f j) σ) fun v => gd_headGo r (i + 1) _).congr fun s σ => by
  simp only [headGo]
theorem gd_lenStep (L : List Int) (k : Int) : Gd (fun s σ => (((lenStep s L (k, σ)).1, (lenStep s L (k, σ)).2.1, (lenStep s L (k, σ)).2.2.1), (lenStep s L (k, σ)).2.2.2)) := by
 by_cases h1 : k < 16
 · exact (Gd.pure (false, 1, k)).congr fun s σ => by unfold lenStep; rw [if_pos h1]
 ·
  by_cases h2 : k = 16
  ·
   by_cases h3 : L.length = 0
   · exact ((gd_stop 1).bind (G := fun _ _ σ => ((true, 0, (0 : Int)), σ)) fun _ => Gd.pure _).congr fun s σ => by unfold lenStep; rw [if_neg h1, if_pos h2, if_pos h3]; rfl
   · exact ((gd_num 2).bind (G := fun v _ σ => ((false, v + 3, L.getD (L.length - 1) 0), σ)) fun v => Gd.pure _).congr fun s σ => by unfold lenStep; rw [if_neg h1, if_pos h2, if_neg h3]
  ·
   by_cases h3 : k = 17
   · exact ((gd_num 3).bind (G := fun v _ σ => ((false, v + 3, (0 : Int)), σ)) fun v => Gd.pure _).congr fun s σ => by unfold lenStep; rw [if_neg h1, if_neg h2, if_pos h3]
   · exact ((gd_num 7).bind (G := fun v _ σ => ((false, v + 11, (0 : Int)), σ)) fun v => Gd.pure _).congr fun s σ => by unfold lenStep; rw [if_neg h1, if_neg h2, if_neg h3]
theorem gd_lenGo (c : Nat → ByteArray) (n : Nat) : ∀ (f : Nat) (L : List Int), Gd (fun s σ => lenGo s c n f L σ)
 | 0, L => Gd.pure L
 |
  f + 1, L => by
  refine (Gd.ite (fun σ => L.length < n ∧ σ.why = 0) (((gd_sym c 19).bind (G := fun k s σ => (((lenStep s L (k, σ)).1, (lenStep s L (k, σ)).2.1, (lenStep s L (k, σ)).2.2.1), (lenStep s L (k, σ)).2.2.2)) fun k => gd_lenStep L k).bind
   (G := fun v s σ => if v.1 = true then ([], σ) else lenGo s c n f (L ++ List.replicate v.2.1 v.2.2) σ) fun v => ?_) (Gd.ite (fun _ => n < L.length) ((gd_stop 1).bind (G := fun _ _ σ => (L, σ)) fun _ => Gd.pure L) (Gd.pure L))).congr fun s σ => ?_
  ·
   by_cases h : v.1 = true
   · simp only [if_pos h]; exact Gd.pure []
   · simp only [if_neg h]; exact gd_lenGo c n f _
  ·
   simp only [lenGo]
   split
   · rfl
   · split <;> rfl
theorem gd_lens (n many : Nat) : Gd (fun s σ => lensF s n many σ) := by
 refine ((gd_headGo many 0 (fun _ => 0)).bind (G := fun f s σ => lensTail s n (f, σ)) fun f => ?_).congr fun s σ => rfl
 by_cases h : ks0 (headZ f) 19 ≠ 32768
 ·
  exact (Gd.ite (fun σ => σ.why ≠ 0) (Gd.pure []) ((gd_stop 1).bind (G := fun _ _ σ => (([] : List Int), σ)) fun _ => Gd.pure [])).congr fun s σ => by
   unfold lensTail
   simp only [if_pos h]
   rfl
 ·
  exact (Gd.ite (fun σ => σ.why ≠ 0) (Gd.pure []) (gd_lenGo (codeT (headZ f) 19) n (n + 1) [])).congr fun s σ => by
   unfold lensTail
   simp only [if_neg h]
theorem gd_ownEnd (L : List Int) (a b : Nat) : Gd (fun _ σ => un (fun σ => ownEnd (L, σ) a b) σ) :=
 (Gd.ite (fun σ => σ.why = 0 ∧ badL L a b = true) (gd_stop 1) (Gd.pure ())).congr fun s σ => by
  by_cases h : σ.why = 0 ∧ badL L a b = true
  · simp only [un, ownEnd, if_pos h]
  · simp only [un, ownEnd, if_neg h]
def ownT (s : ByteArray) (σ : St) : (Nat × Nat × List Int) × St := (((headF s σ).a, (headF s σ).b, (ownF s σ).1), (ownF s σ).2)
theorem gd_own : Gd ownT := by
 refine (gd_head.bind (G := fun h s σ => if σ.why ≠ 0 then ((h.1, h.2.1, []), σ) else ((h.1, h.2.1, (lensF s (h.1 + h.2.1 + 258) (h.2.2 + 4) σ).1), ownEnd (lensF s (h.1 + h.2.1 + 258) (h.2.2 + 4) σ) h.1 h.2.1)) fun h => ?_).congr fun s σ => ?_
 ·
  refine Gd.ite (fun σ => σ.why ≠ 0) (Gd.pure (h.1, h.2.1, [])) ?_
  exact ((gd_lens (h.1 + h.2.1 + 258) (h.2.2 + 4)).bind (G := fun L _ σ => ((h.1, h.2.1, L), ownEnd (L, σ) h.1 h.2.1)) fun L =>
   ((gd_ownEnd L h.1 h.2.1).bind (G := fun _ _ σ => ((h.1, h.2.1, L), σ)) fun _ => Gd.pure _).congr fun _ _ => rfl).congr fun _ _ => rfl
 ·
  unfold ownT ownF headT
  generalize headF s σ = hd
  by_cases c : hd.st.why ≠ 0
  · simp only [if_pos c]
  · simp only [if_neg c]
theorem gd_ownBlk : Gd (unS ownBlk) :=
 (gd_own.bind (G := fun v s σ => unS (fun s σ => codedF s (codeT (lenZ v.2.2 0) (v.1 + 257)) (v.1 + 257) (codeT (lenZ v.2.2 (v.1 + 257)) (v.2.1 + 1)) (v.2.1 + 1) σ) s σ) fun v => gd_coded _ _ _ _).congr fun s σ => by simp only [unS, ownBlk, ownT]
theorem gd_block (k : Nat) : Gd (unS fun s σ => blockF s k σ) := by
 by_cases h0 : k = 0
 · exact gd_plain.congr fun s σ => by simp only [unS, blockF, if_pos h0]
 ·
  by_cases h1 : k = 1
  · exact (gd_coded (codeT fixZ 288) 288 (codeT fivZ 32) 32).congr fun s σ => by simp only [unS, blockF, if_neg h0, if_pos h1]
  ·
   by_cases h2 : k = 2
   · exact gd_ownBlk.congr fun s σ => by simp only [unS, blockF, if_neg h0, if_neg h1, if_pos h2]
   · exact (gd_stop 1).congr fun s σ => by simp only [unS, un, blockF, if_neg h0, if_neg h1, if_neg h2]
def finF (b : Nat) (σ : St) : St := { σ with fin := decide (σ.why = 0 ∧ b = 1) }
theorem gd_fin (b : Nat) : Gd (fun _ σ => un (finF b) σ) := Gd.still (f := un (finF b)) (fun _ _ => ⟨rfl, rfl⟩) (fun _ => List.prefix_refl _) (fun _ _ h => ⟨h.pos, h.text⟩)
def stepOf (nf : ByteArray → St → Nat × St) (s : ByteArray) (σ : St) : Bool × St :=
 if (nf s (bitF s σ).2).2.why ≠ 0 then (true, (nf s (bitF s σ).2).2) else (false, finF (bitF s σ).1 (blockF s (nf s (bitF s σ).2).1 (nf s (bitF s σ).2).2))
theorem gd_stepOf {nf : ByteArray → St → Nat × St} (hn : Gd nf) : Gd (stepOf nf) :=
 (gd_bit.bind (G := fun b s σ => if (nf s σ).2.why ≠ 0 then (true, (nf s σ).2) else (false, finF b (blockF s (nf s σ).1 (nf s σ).2))) fun b =>
  (hn.bind (G := fun k s σ => if σ.why ≠ 0 then (true, σ) else (false, finF b (blockF s k σ))) fun k =>
   Gd.ite (fun σ => σ.why ≠ 0) (Gd.pure true) (((gd_block k).bind (G := fun _ _ σ => (false, finF b σ)) fun _ =>
    ((gd_fin b).bind (G := fun _ _ σ => (false, σ)) fun _ => Gd.pure false).congr fun _ _ => rfl).congr fun _ _ => rfl)).congr fun _ _ => rfl).congr fun _ _ => rfl
theorem gd_runStep : Gd (fun s σ => runStep s σ) := (gd_stepOf (nf := fun s σ => numF s 2 σ) (gd_num 2)).congr fun s σ => by
 unfold runStep stepOf finF
 rfl
theorem gd_runGo : ∀ f, Gd (unS fun s σ => runGo s f σ)
 | 0 => (Gd.pure ()).congr fun _ _ => rfl
 |
  f + 1 => by
  refine (Gd.ite (fun σ => σ.why = 0 ∧ σ.fin = false) (gd_runStep.bind (G := fun b s σ => if b = true then ((), σ) else unS (fun s σ => runGo s f σ) s σ) fun b => ?_) (Gd.pure ())).congr fun s σ => ?_
  ·
   cases b
   · simp only [Bool.false_eq_true, if_false]; exact gd_runGo f
   · simp only [if_true]; exact Gd.pure ()
  ·
   unfold unS
   simp only [runGo]
   split
   · split <;> rfl
   · rfl
theorem runGo_more (s : ByteArray) : ∀ (f : Nat) (σ : St), Fit s σ → restN s σ ≤ f → ∀ k, runGo s (f + k) σ = runGo s f σ
 |
  0, σ, hf, hr, k => by
  have hy : σ.why ≠ 0 := fun h => by unfold restN at hr; rw [if_pos h] at hr; omega
  cases k with
  | zero => rfl
  | succ k => simp only [runGo]; rw [if_neg (fun h => hy h.1)]
 |
  f + 1, σ, hf, hr, k => by
  rw [show f + 1 + k = (f + k) + 1 from by omega]
  simp only [runGo]
  by_cases hy : σ.why = 0 ∧ σ.fin = false
  ·
   rw [if_pos hy, if_pos hy]
   by_cases hs : (runStep s σ).1 = true
   · rw [if_pos hs, if_pos hs]
   ·
    rw [if_neg hs, if_neg hs]
    have hs' : (runStep s σ).1 = false := by simpa using hs
    have h1 := runStep_rest hf hy.1 hs'
    exact runGo_more s f _ (runStep_fit hf) (by omega) k
  · rw [if_neg hy, if_neg hy]
theorem start_fit (s : ByteArray) : Fit s start := ⟨Nat.zero_le _, by show 0 ≤ 5000; omega⟩
/-- What is read of some bytes is read of more. -/
theorem run_mono {s' s : ByteArray} (h : Pfx s' s) : runF s' = runF s ∨ Dm (runF s') (runF s) := by
 have hz := h.size
 have e : runF s' = runGo s' (8 * s.size + 1) start := by
  unfold runF
  rw [show 8 * s.size + 1 = 8 * s'.size + 1 + (8 * s.size - 8 * s'.size) from by omega, runGo_more s' _ start (start_fit s') (restN_le s' start)]
 rcases (gd_runGo (8 * s.size + 1)).mono s' s h start (start_fit s') with q | q
 ·
  left
  rw [e]
  exact congrArg Prod.snd q
 ·
  right
  rw [e]
  exact q
theorem pfx_app (s b : ByteArray) : Pfx s (s ++ b) := by
 refine ⟨by rw [ByteArray.size_append]; omega, fun p hp => ?_⟩
 unfold bitOf
 rw [ByteArray.data_append, Array.toList_append]
 simp only [List.getD_eq_getElem?_getD]
 rw [List.getElem?_append_left (by rw [Array.length_toList]; show p / 8 < s.size; omega)]
end Go.Proofs.YtecddphahiadlaaGreatDoor
