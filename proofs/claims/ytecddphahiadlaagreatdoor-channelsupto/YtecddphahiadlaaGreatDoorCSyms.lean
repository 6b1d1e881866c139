import Derived.Test.YtecddphahiadlaaGreatDoorCPair
/- A block of symbols by the document: plain reckoning. -/
namespace Go.Proofs.YtecddphahiadlaaGreatDoor
open Go.RowKit
/-- How many letters there are in the first k codes. -/
def thereN (c : Nat → ByteArray) : Nat → Nat
 | 0 => 0
 | k + 1 => thereN c k + (c k).size
theorem thereN_le {c : Nat → ByteArray} : ∀ (k : Nat), (∀ i, i < k → (c i).size ≤ 15) → thereN c k ≤ 15 * k
 | 0, _ => Nat.le_refl _
 |
  k + 1, h => by
  have h1 := thereN_le k (fun i hi => h i (by omega))
  have h2 := h k (by omega)
  simp only [thereN]
  omega
/-- Behind a symbol k: is the block's end there, and how far the stream is. -/
def stepF (s : ByteArray) (c : Nat → ByteArray) (n there : Nat) (k : Int × St) : Bool × St :=
 if k.2.why ≠ 0 ∨ k.1 = 256 then (true, k.2)
 else if k.1 < 256 then (false, putF k.2 (UInt8.ofNat k.1.toNat))
 else if 285 < k.1 ∨ there = 0 then (false, stopF k.2 1)
 else (false, pairF s c n k.1.toNat k.2)
def codedGo (s : ByteArray) (l : Nat → ByteArray) (nl : Nat) (d : Nat → ByteArray) (nd : Nat) : Nat → St → St
 | 0, σ => σ
 |
  f + 1, σ => if σ.why ≠ 0 then σ else if (stepF s d nd (thereN d nd) (symF s l nl σ)).1 = true then (stepF s d nd (thereN d nd) (symF s l nl σ)).2
  else codedGo s l nl d nd f (stepF s d nd (thereN d nd) (symF s l nl σ)).2
def codedF (s : ByteArray) (l : Nat → ByteArray) (nl : Nat) (d : Nat → ByteArray) (nd : Nat) (σ : St) : St := codedGo s l nl d nd (8 * s.size + 1) σ
/-- What is left to read. -/
def restN (s : ByteArray) (σ : St) : Nat := 8 * s.size - σ.pos + if σ.why = 0 then 1 else 0
theorem bitF_ge (s : ByteArray) (σ : St) : σ.pos ≤ (bitF s σ).2.pos := by
 unfold bitF
 split
 · exact Nat.le_refl _
 ·
  split
  · exact Nat.le_refl _
  · exact Nat.le_succ _
theorem bitF_more {s : ByteArray} {σ : St} (h : (bitF s σ).2.why = 0) : σ.pos < (bitF s σ).2.pos := by
 unfold bitF at h ⊢
 split at h
 · next h1 => exact absurd h h1
 ·
  next h1 =>
  rw [if_neg h1]
  split at h
  · simp at h
  · next h2 => rw [if_neg h2]; exact Nat.lt_succ_self _
theorem numF_ge (s : ByteArray) : ∀ (n : Nat) (σ : St), σ.pos ≤ (numF s n σ).2.pos
 | 0, _ => Nat.le_refl _
 | n + 1, σ => Nat.le_trans (bitF_ge s σ) (numF_ge s n _)
theorem stopF_pos (σ : St) (y : Nat) : (stopF σ y).pos = σ.pos := by
 unfold stopF; split <;> rfl
theorem putF_pos (σ : St) (c : UInt8) : (putF σ c).pos = σ.pos := by
 unfold putF
 split
 · rfl
 · split <;> rfl
theorem symGo_ge {s : ByteArray} {c : Nat → ByteArray} {n : Nat} : ∀ (f : Nat) (cur : ByteArray) (σ : St), σ.pos ≤ (symGo s c n f cur σ).2.pos
 | 0, _, _ => Nat.le_refl _
 |
  f + 1, cur, σ => by
  simp only [symGo]
  split
  · exact Nat.le_refl _
  ·
   split
   ·
    split
    · exact Nat.le_trans (bitF_ge s σ) (symGo_ge f _ _)
    · exact bitF_ge s σ
   · rw [stopF_pos]; exact Nat.le_refl _
theorem hitF_empty {c : Nat → ByteArray} : ∀ (r k : Nat), hitF c .empty r k = none
 | 0, _ => rfl
 |
  r + 1, k => by
  rw [hitF_step, hitF_empty r (k + 1)]
  unfold hitB
  cases h : (c k).toList with
  | nil => rfl
  | cons x l => simp
theorem symGo_more {s : ByteArray} {c : Nat → ByteArray} {n f : Nat} {σ : St} (h : (symGo s c n (f + 1) .empty σ).2.why = 0) : σ.pos < (symGo s c n (f + 1) .empty σ).2.pos := by
 simp only [symGo, hitF_empty] at h ⊢
 by_cases hs : someB c .empty n = true
 ·
  rw [if_pos hs] at h ⊢
  by_cases hb : (bitF s σ).2.why = 0
  ·
   rw [if_pos hb] at h ⊢
   exact Nat.lt_of_lt_of_le (bitF_more hb) (symGo_ge _ _ _)
  ·
   rw [if_neg hb] at h
   exact absurd h hb
 ·
  rw [if_neg hs] at h
  exact absurd h (stopF_why (by omega))
theorem symF_more {s : ByteArray} {c : Nat → ByteArray} {n : Nat} {σ : St} (h : (symF s c n σ).2.why = 0) : σ.pos < (symF s c n σ).2.pos := symGo_more (f := 16) h
theorem symF_ge {s : ByteArray} {c : Nat → ByteArray} {n : Nat} (σ : St) : σ.pos ≤ (symF s c n σ).2.pos := symGo_ge _ _ _
theorem pairEnd_pos (n back : Nat) (σ : St) : (pairEnd n back σ).pos = σ.pos := by
 unfold pairEnd
 split
 · rfl
 ·
  split
  · exact stopF_pos _ _
  ·
   split
   · exact stopF_pos _ _
   · rfl
theorem pairF_ge (s : ByteArray) (c : Nat → ByteArray) (n y : Nat) (σ : St) : σ.pos ≤ (pairF s c n y σ).pos := by
 have h1 : σ.pos ≤ (symF s c n (numF s (pairM y) σ).2).2.pos := Nat.le_trans (numF_ge s _ σ) (symF_ge _)
 unfold pairF pairDist
 generalize symF s c n (numF s (pairM y) σ).2 = k at h1 ⊢
 split
 ·
  unfold distSt
  split
  · rw [stopF_pos]; exact h1
  · exact h1
 ·
  rw [pairEnd_pos]
  exact Nat.le_trans h1 (numF_ge s _ _)
theorem stepF_ge (s : ByteArray) (c : Nat → ByteArray) (n there : Nat) (k : Int × St) : k.2.pos ≤ (stepF s c n there k).2.pos := by
 unfold stepF
 split
 · exact Nat.le_refl _
 ·
  split
  · rw [putF_pos]; exact Nat.le_refl _
  ·
   split
   · rw [stopF_pos]; exact Nat.le_refl _
   · exact pairF_ge _ _ _ _ _
theorem Fit.stepF {s : ByteArray} {c : Nat → ByteArray} {n there : Nat} {k : Int × St} (h : Fit s k.2) : Fit s (stepF s c n there k).2 := by
 unfold Go.Proofs.YtecddphahiadlaaGreatDoor.stepF
 split
 · exact h
 ·
  split
  · exact h.put _
  ·
   split
   · exact h.stop 1
   · exact h.pairF
theorem restN_sym {s : ByteArray} {l : Nat → ByteArray} {nl : Nat} {c : Nat → ByteArray} {n there : Nat} {σ : St} (hf : Fit s σ) (hy : σ.why = 0) (hk : (symF s l nl σ).2.why = 0) :
 restN s (stepF s c n there (symF s l nl σ)).2 < restN s σ := by
 have h1 := symF_more hk
 have h2 := stepF_ge s c n there (symF s l nl σ)
 have h3 := (Fit.stepF (c := c) (n := n) (there := there) (Fit.symF (c := l) (n := nl) hf)).pos
 have h4 := hf.pos
 unfold restN
 rw [if_pos hy]
 split <;> omega
theorem codedGo_dead {s : ByteArray} {l : Nat → ByteArray} {nl : Nat} {d : Nat → ByteArray} {nd : Nat} {σ : St} (h : σ.why ≠ 0) (f : Nat) : codedGo s l nl d nd f σ = σ := by
 cases f with
 | zero => rfl
 | succ f => simp only [codedGo]; rw [if_pos h]
theorem codedF_dead {s : ByteArray} {l : Nat → ByteArray} {nl : Nat} {d : Nat → ByteArray} {nd : Nat} {σ : St} (h : σ.why ≠ 0) : codedF s l nl d nd σ = σ := codedGo_dead h _
theorem codedGo_fit {s : ByteArray} {l : Nat → ByteArray} {nl : Nat} {d : Nat → ByteArray} {nd : Nat} : ∀ (f : Nat) {σ : St}, Fit s σ → Fit s (codedGo s l nl d nd f σ)
 | 0, _, h => h
 |
  f + 1, σ, h => by
  simp only [codedGo]
  split
  · exact h
  ·
   split
   · exact h.symF.stepF
   · exact codedGo_fit f h.symF.stepF
theorem codedGo_ge {s : ByteArray} {l : Nat → ByteArray} {nl : Nat} {d : Nat → ByteArray} {nd : Nat} : ∀ (f : Nat) (σ : St), σ.pos ≤ (codedGo s l nl d nd f σ).pos
 | 0, _ => Nat.le_refl _
 |
  f + 1, σ => by
  have h1 : σ.pos ≤ (stepF s d nd (thereN d nd) (symF s l nl σ)).2.pos := Nat.le_trans (symF_ge σ) (stepF_ge _ _ _ _ _)
  simp only [codedGo]
  split
  · exact Nat.le_refl _
  ·
   split
   · exact h1
   · exact Nat.le_trans h1 (codedGo_ge f _)
/- The document's coded: a block of symbols. -/
/-- The state of the loop over the symbols. -/
structure BR (B : Nat) (w wr : World) (gx : Nat) (s : ByteArray) (vt : Value) (l : Nat → ByteArray) (nl : Nat) (d : Nat → ByteArray) (nd f : Nat) (σ goal : St) : Prop where
 fit : Fit s σ
 runs : Runs B w wr gx s vt σ
 few : restN s σ ≤ f
 eq : codedGo s l nl d nd f σ = goal
theorem BR.dead {B : Nat} {w wr : World} {gx : Nat} {s : ByteArray} {vt : Value} {l : Nat → ByteArray} {nl : Nat} {d : Nat → ByteArray} {nd f : Nat} {σ goal : St} (h : BR B w wr gx s vt l nl d nd f σ goal) (hy : ¬ σ.why = 0) : Runs B w wr gx s vt goal := by
 rw [← h.eq, codedGo_dead hy]; exact h.runs
theorem BR.last {B : Nat} {w wr w2 : World} {gx : Nat} {s : ByteArray} {vt vt' : Value} {l : Nat → ByteArray} {nl : Nat} {d : Nat → ByteArray} {nd f : Nat} {σ goal : St} (h : BR B w wr gx s vt l nl d nd f σ goal) (hy : σ.why = 0) (hkp : Kp w wr gx vt)
 (hfr : ∀ g, vt'.ownBlock = some g → vt.ownBlock = some g ∨ w.heap.size ≤ g) (h2 : Str B w2 gx s (symF s l nl σ).2 vt') (k2 : Kp wr w2 gx vt') (he : (symF s l nl σ).2.why ≠ 0 ∨ (symF s l nl σ).1 = 256) : Runs B w w2 gx s vt goal := by
 have hf : 1 ≤ f := by have := h.few; unfold restN at this; rw [if_pos hy] at this; omega
 obtain ⟨f', rfl⟩ : ∃ f', f = f' + 1 := ⟨f - 1, by omega⟩
 have e := h.eq
 simp only [codedGo] at e
 have e2 : stepF s d nd (thereN d nd) (symF s l nl σ) = (true, (symF s l nl σ).2) := by unfold stepF; rw [if_pos he]
 rw [if_neg (by omega), e2, if_pos rfl] at e
 rw [← e]
 exact Runs.trans hkp hfr ⟨vt', h2, k2, fun _ hg => Or.inl hg⟩
theorem BR.next {B : Nat} {w wr w2 w3 : World} {gx : Nat} {s : ByteArray} {vt vt' : Value} {l : Nat → ByteArray} {nl : Nat} {d : Nat → ByteArray} {nd f : Nat} {σ goal : St} (h : BR B w wr gx s vt l nl d nd f σ goal) (hy : σ.why = 0) (hkp : Kp w wr gx vt)
 (hfr : ∀ g, vt'.ownBlock = some g → vt.ownBlock = some g ∨ w.heap.size ≤ g) (k2 : Kp wr w2 gx vt') (hk : (symF s l nl σ).2.why = 0) (he : ¬ (symF s l nl σ).1 = 256)
 (h3 : Runs B w2 w3 gx s vt' (stepF s d nd (thereN d nd) (symF s l nl σ)).2) : 1 ≤ f ∧ BR B w w3 gx s vt l nl d nd (f - 1) (stepF s d nd (thereN d nd) (symF s l nl σ)).2 goal := by
 have hlt := restN_sym (s := s) (l := l) (nl := nl) (c := d) (n := nd) (there := thereN d nd) h.fit hy hk
 have hfw := h.few
 refine ⟨by omega, h.fit.symF.stepF, Runs.trans hkp hfr (Runs.trans k2 (fun _ hg => Or.inl hg) h3), by omega, ?_⟩
 obtain ⟨f', rfl⟩ : ∃ f', f = f' + 1 := ⟨f - 1, by omega⟩
 have e := h.eq
 simp only [codedGo] at e
 have e2 : (stepF s d nd (thereN d nd) (symF s l nl σ)).1 = false := by
  unfold stepF
  rw [if_neg (by omega)]
  split
  · rfl
  · split <;> rfl
 rw [if_neg (by omega), e2, if_neg (by simp)] at e
 exact e
set_option maxRecDepth 4000 in
set_option maxHeartbeats 1000000 in
theorem coded_any (B gx gl nl cl gd nd cd : Nat) (s : ByteArray) (l d : Nat → ByteArray) (σ : St) (vt : Value) (w : World) (h : Str B w gx s σ vt) (hB : B ≤ w.heap.size) (hs : s.size ≤ 140737488400000) (hf : Fit s σ)
 (hl : w.rowIs gl 9 nl (fun i => .string (l i))) (hgl : gl ≠ gx) (hvl : vt.ownBlock ≠ some gl) (hnl : nl ≤ 1000) (hcl : ∀ i, i < nl → (l i).size ≤ 15)
 (hd : w.rowIs gd 9 nd (fun i => .string (d i))) (hgd : gd ≠ gx) (hvd : vt.ownBlock ≠ some gd) (hnd : nd ≤ 1000) (hcd : ∀ i, i < nd → (d i).size ≤ 15) :
 Calls Tryz.prog 88 #[.pointer (some ⟨gx, 0, none⟩), .slice (some ⟨gl, 0, none⟩) nl cl, .slice (some ⟨gd, 0, none⟩) nd cd] w fun e w' => e = .returned (.tuple #[]) ∧ Runs B w w' gx s vt (codedF s l nl d nd σ) := by
 have R0 : BR B w w gx s vt l nl d nd (8 * s.size + 1) σ (codedF s l nl d nd σ) := ⟨hf, Runs.refl h, by unfold restN; split <;> omega, rfl⟩
 generalize codedF s l nl d nd σ = goal at R0 ⊢
 go_enter Tryz.func88, Tryz.ntmps88
 go_wp2_with fail
 go_loop [6, 7] (fun t i => ∃ k : Nat, k ≤ nd ∧ i = .int .i64 (k : Nat) ∧ t = .int .i64 (thereN d k : Nat)) (fun _ i => nd - (intOf i).toNat)
 case atStart => exact ⟨0, by omega, rfl, rfl⟩
 case round =>
  obtain ⟨k, hk, rfl, rfl⟩ := hrel
  have ht := thereN_le k (fun i hi => hcd i (by omega))
  by_cases hlt : k < nd
  ·
   have ck := hd.cell hlt
   have ik : (k : Int) < (nd : Int) := by omega
   have hz := hcd k hlt
   have HT : Hid (thereN d (k + 1) = thereN d k + (d k).size) := rfl
   go_wp2
   go_round
   case rel => exact ⟨k + 1, by omega, by go_num, by rw [HT.out]; go_num⟩
   case measure => simp [intOf]; omega
  ·
   obtain rfl : k = nd := by omega
   clear hlt
   obtain ⟨th, hth⟩ : ∃ th, th = thereN d k := ⟨_, rfl⟩
   rw [← hth] at ht ⊢
   have HTH : Hid (th = thereN d k) := hth
   clear hth hk
   go_wp2_with fail
   go_loopg [8] (8 * s.size + 1) (fun f _ wr => ∃ σ1 : St, BR B w wr gx s vt l nl d k f σ1 goal)
   case atStart => exact ⟨σ, R0⟩
   case round =>
    obtain ⟨σ1, hrel⟩ := hrel
    clear R0
    obtain ⟨vt', hstr, hkp, hfr⟩ := hrel.runs
    have d3 := hstr.c3
    by_cases hy : σ1.why = 0
    ·
     have e3 : ((σ1.why : Int) == 0) = true := by rw [beq_iff_eq]; omega
     have hl1 := hl.of_block (hkp.block gl hl.lt hgl hvl)
     have hd1 := hd.of_block (hkp.block gd hd.lt hgd hvd)
     have hvl1 : vt'.ownBlock ≠ some gl := fun e => by
      rcases hfr gl e with e' | e'
      · exact hvl e'
      · have := hl.lt; omega
     have hvd1 : vt'.ownBlock ≠ some gd := fun e => by
      rcases hfr gd e with e' | e'
      · exact hvd e'
      · have := hd.lt; omega
     have hBr : B ≤ wr.heap.size := Nat.le_trans hB hkp.size
     go_wp2_with fail
     refine (symbol_any B gx gl nl cl s l σ1 vt' _ hstr hs hrel.fit hl1 hgl hvl1 hnl hcl).mono ?_
     rintro e w2 ⟨rfl, h2, k2⟩
     have hd2 := hd1.of_block (k2.block gd hd1.lt hgd hvd1)
     have hfst := symF_fst hcl σ1 (s := s)
     have f2 : Fit s (symF s l nl σ1).2 := hrel.fit.symF
     have HL : Hid (_) := fun w2 => hrel.last (w2 := w2) hy hkp hfr
     have HN : Hid (_) := fun w2 w3 => hrel.next (w2 := w2) (w3 := w3) hy hkp hfr
     generalize symF s l nl σ1 = q at h2 hfst f2 HL HN ⊢
     obtain ⟨kk, σ2⟩ := q
     simp only at h2 hfst f2 HL HN ⊢
     clear hl1 hd1 hrel hstr hy d3 e3 hkp hfr
     have d3 := h2.c3
     have hB2 : B ≤ w2.heap.size := Nat.le_trans hBr k2.size
     by_cases hy2 : σ2.why = 0
     ·
      have e3 : ((σ2.why : Int) != 0) = false := by rw [bne_eq_false_iff_eq]; omega
      obtain ⟨k', hk', rfl⟩ := hfst hy2
      by_cases h256 : k' = 256
      ·
       subst h256
       have R := HL.out w2 h2 k2 (Or.inr rfl)
       clear HL HN h2 k2 hy2 hfst
       go_wp2
       first | go_end0 | (refine bodyPost_ret (results_none rfl _ _ _) rfl ?_)
       exact ⟨rfl, R⟩
      ·
       have e256 : ((k' : Int) == 256) = false := by rw [beq_eq_false_iff_ne]; omega
       have HN2 : Hid (_) := fun w3 => HN.out w2 w3 k2 hy2 (by show ¬ (k' : Int) = 256; omega)
       clear HL HN hfst
       by_cases hlo : k' < 256
       ·
        have hS : (stepF s d k (thereN d k) ((k' : Int), σ2)).2 = putF σ2 (UInt8.ofNat k') := by
         unfold stepF
         rw [if_neg (by show ¬ (σ2.why ≠ 0 ∨ (k' : Int) = 256); omega), if_pos (by show (k' : Int) < 256; omega)]
         rfl
        rw [hS] at HN2
        have HC : Hid ((k' : Int) = (((UInt8.ofNat k').toNat : Nat) : Int)) := by
         show _ = _
         rw [UInt8.toNat_ofNat', Nat.mod_eq_of_lt (by omega)]
        have P3 := put_any B gx s σ2 vt' (UInt8.ofNat k') w2 h2 hB2 f2.text
        rw [← HC.out] at P3
        have HP3 : Hid (_) := P3
        clear P3 hS h256
        go_wp2_with fail
        refine Calls.mono HP3.out ?_
        rintro e w3 ⟨rfl, hr3⟩
        obtain ⟨hf1, R⟩ := HN2.out w3 hr3
        clear HN2 hr3 HP3 h2 k2
        go_wp2
        go_roundg (gk - 1)
        case measure => omega
        case rel => exact ⟨_, R⟩
       ·
        have dlo : decide ((k' : Int) < 256) = false := by rw [decide_eq_false_iff_not]; omega
        by_cases hbad : 285 < k' ∨ th = 0
        ·
         have hS : (stepF s d k (thereN d k) ((k' : Int), σ2)).2 = stopF σ2 1 := by
          unfold stepF
          rw [if_neg (by show ¬ (σ2.why ≠ 0 ∨ (k' : Int) = 256); omega), if_neg (by show ¬ (k' : Int) < 256; omega), if_pos (by rw [← HTH.out]; show (285 : Int) < (k' : Int) ∨ th = 0; omega)]
         rw [hS] at HN2
         clear hS h256
         have fin : ∀ w3, Str B w3 gx s (stopF σ2 1) vt' → Kp w2 w3 gx vt' → 1 ≤ gk ∧ BR B w w3 gx s vt l nl d k (gk - 1) (stopF σ2 1) goal := fun w3 a b => HN2.out w3 ⟨vt', a, b, fun _ hg => Or.inl hg⟩
         have HFIN : Hid (_) := fin
         clear fin HN2
         by_cases hhi : 285 < k'
         ·
          have dhi : decide ((285 : Int) < (k' : Int)) = true := by rw [decide_eq_true_iff]; omega
          clear hbad
          go_wp2_with fail
          refine (stops_any B gx 1 s σ2 vt' _ h2).mono ?_
          rintro e w3 ⟨rfl, h3, k3⟩
          obtain ⟨hf1, R⟩ := HFIN.out w3 h3 k3
          clear HFIN h3 k3 h2 k2
          go_wp2
          go_roundg (gk - 1)
          case measure => omega
          case rel => exact ⟨_, R⟩
         ·
          have dhi : decide ((285 : Int) < (k' : Int)) = false := by rw [decide_eq_false_iff_not]; omega
          have eth : ((th : Int) == 0) = true := by rw [beq_iff_eq]; omega
          clear hbad
          go_wp2_with fail
          refine (stops_any B gx 1 s σ2 vt' _ h2).mono ?_
          rintro e w3 ⟨rfl, h3, k3⟩
          obtain ⟨hf1, R⟩ := HFIN.out w3 h3 k3
          clear HFIN h3 k3 h2 k2
          go_wp2
          go_roundg (gk - 1)
          case measure => omega
          case rel => exact ⟨_, R⟩
        ·
         have dhi : decide ((285 : Int) < (k' : Int)) = false := by rw [decide_eq_false_iff_not]; omega
         have eth : ((th : Int) == 0) = false := by rw [beq_eq_false_iff_ne]; omega
         have hS : (stepF s d k (thereN d k) ((k' : Int), σ2)).2 = pairF s d k k' σ2 := by
          unfold stepF
          rw [if_neg (by show ¬ (σ2.why ≠ 0 ∨ (k' : Int) = 256); omega), if_neg (by show ¬ (k' : Int) < 256; omega), if_neg (by rw [← HTH.out]; show ¬ ((285 : Int) < (k' : Int) ∨ th = 0); omega)]
          rfl
         rw [hS] at HN2
         have hk1 : 257 ≤ k' := by omega
         have hk2 : k' ≤ 285 := by omega
         clear hS h256 hbad
         go_wp2_with fail
         refine (pair_any B gx gd k cd k' s d σ2 vt' _ h2 hB2 hs f2 hd2 hgd hvd1 hnd hcd hk1 hk2).mono ?_
         rintro e w3 ⟨rfl, hr3⟩
         obtain ⟨hf1, R⟩ := HN2.out w3 hr3
         clear HN2 hr3 h2 k2
         go_wp2
         go_roundg (gk - 1)
         case measure => omega
         case rel => exact ⟨_, R⟩
     ·
      have e3 : ((σ2.why : Int) != 0) = true := by rw [bne_iff_ne]; omega
      have R := HL.out w2 h2 k2 (Or.inl hy2)
      clear HL HN h2 k2 hy2 hfst
      go_wp2
      first | go_end0 | (refine bodyPost_ret (results_none rfl _ _ _) rfl ?_)
      exact ⟨rfl, R⟩
    ·
     have e3 : ((σ1.why : Int) == 0) = false := by rw [beq_eq_false_iff_ne]; omega
     have R := hrel.dead hy
     clear hrel hstr hkp hfr hy
     go_wp2
     go_end0
     exact ⟨rfl, R⟩
end Go.Proofs.YtecddphahiadlaaGreatDoor
