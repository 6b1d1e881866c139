import Derived.Test.YtecddphahiadlaaGreatDoorCFixed
import Derived.Test.YtecddphahiadlaaGreatDoorCCount
import Derived.Test.YtecddphahiadlaaGreatDoorCRunF
import Derived.Test.YtecddphahiadlaaGreatDoorCPut
import Derived.Lib.Strings
import Derived.Lib.BufferWrite
import Derived.Lib.UnsafeStr
import Derived.Laws.MakeOwn
/- Symbols in the order of their codes: plain reckoning. -/
namespace Go.Proofs.YtecddphahiadlaaGreatDoor
open Go.RowKit
/-- How many codes have 1 to l letters. -/
def pas (c : Nat → Nat) : Nat → Nat
 | 0 => 0
 | l + 1 => pas c l + c (l + 1)
theorem pas_succ (c : Nat → Nat) (l : Nat) : pas c (l + 1) = pas c l + c (l + 1) := rfl
theorem pas_mono (c : Nat → Nat) {a b : Nat} (h : a ≤ b) : pas c a ≤ pas c b := by
 induction b with
 | zero =>
  obtain rfl : a = 0 := by omega
  exact Nat.le_refl _
 |
  succ b ih =>
  by_cases e : a = b + 1
  · rw [e]; exact Nat.le_refl _
  ·
   have := ih (by omega)
   rw [pas_succ]; omega
theorem pas_add (c : Nat → Nat) (v : Int) (m : Nat) : pas (fun l => c l + if v = (l : Int) then 1 else 0) m = pas c m + if 1 ≤ v ∧ v ≤ (m : Int) then 1 else 0 := by
 induction m with
 | zero => rw [if_neg (by omega)]; rfl
 |
  succ m ih =>
  rw [pas_succ, pas_succ, ih]
  by_cases e : v = ((m + 1 : Nat) : Int)
  · rw [if_neg (by omega), if_pos e, if_pos (by omega)]; omega
  ·
   rw [if_neg e]
   by_cases h1 : 1 ≤ v ∧ v ≤ (m : Int)
   · rw [if_pos h1, if_pos (by omega)]; omega
   · rw [if_neg h1, if_neg (by omega)]; omega
theorem pas_all (z : Nat → Int) (n : Nat) (h : ∀ i, i < n → 0 ≤ z i ∧ z i ≤ 15) : pas (cntN z n) 15 + cntN z n 0 = n := by
 induction n with
 |
  zero =>
  have : ∀ m, pas (cntN z 0) m = 0 := by
   intro m
   induction m with
   | zero => rfl
   | succ m ih => rw [pas_succ, ih]; simp [cntN]
  rw [this]; rfl
 |
  succ n ih =>
  have e : cntN z (n + 1) = fun l => cntN z n l + if z n = (l : Int) then 1 else 0 := by
   funext l; rfl
  have hn := h n (by omega)
  have hi := ih (fun i hi => h i (by omega))
  rw [e, pas_add]
  show _ + (cntN z n 0 + if z n = ((0 : Nat) : Int) then 1 else 0) = n + 1
  by_cases h0 : z n = 0
  · rw [if_neg (by omega), if_pos (by omega)]; omega
  · rw [if_pos (by omega), if_neg (by omega)]; omega
/-- Where symbol i stands among those that have codes. -/
def plc (z : Nat → Int) (n i : Nat) : Nat := pas (cntN z n) ((z i).toNat - 1) + cntN z i (z i).toNat
theorem plc_lt {z : Nat → Int} {n i : Nat} (hi : i < n) (h0 : 1 ≤ z i) : plc z n i < pas (cntN z n) (z i).toNat := by
 obtain ⟨q, hq⟩ : ∃ q, (z i).toNat = q + 1 := ⟨(z i).toNat - 1, by omega⟩
 have h1 := cntN_lt z (m := (z i).toNat) hi (by omega)
 unfold plc
 rw [hq] at h1 ⊢
 rw [pas_succ, Nat.add_sub_cancel]
 omega
theorem plc_inj {z : Nat → Int} {n i k : Nat} (hi : i < n) (hk : k < n) (h0 : 1 ≤ z i) (h1 : 1 ≤ z k) (h : plc z n i = plc z n k) : i = k := by
 have a1 := plc_lt hi h0
 have a2 := plc_lt hk h1
 rcases Nat.lt_trichotomy (z i).toNat (z k).toNat with c | c | c
 ·
  have := pas_mono (cntN z n) (show (z i).toNat ≤ (z k).toNat - 1 by omega)
  unfold plc at h a1 a2
  omega
 ·
  unfold plc at h
  rw [c] at h
  rcases Nat.lt_trichotomy i k with e | e | e
  · have := cntN_lt z (m := (z k).toNat) e (by omega); omega
  · exact e
  · have := cntN_lt z (m := (z k).toNat) e (by omega); omega
 ·
  have := pas_mono (cntN z n) (show (z k).toNat ≤ (z i).toNat - 1 by omega)
  unfold plc at h a1 a2
  omega
/-- The symbols that are laid when k of n are gone through. -/
def syF (z : Nat → Int) (n : Nat) : Nat → Nat → Nat
 | 0, _ => 0
 | k + 1, p => if z k ≠ 0 ∧ p = plc z n k then k else syF z n k p
theorem syF_at {z : Nat → Int} {n : Nat} (hz : ∀ i, i < n → 0 ≤ z i) : ∀ (k : Nat), k ≤ n → ∀ i, i < k → 1 ≤ z i → syF z n k (plc z n i) = i
 | 0, _, i, hi, _ => absurd hi (by omega)
 |
  k + 1, hk, i, hi, h0 => by
  simp only [syF]
  by_cases e : i = k
  ·
   subst e
   rw [if_pos ⟨by omega, rfl⟩]
  ·
   rw [if_neg, syF_at hz k (by omega) i (by omega) h0]
   rintro ⟨a, b⟩
   have := hz k (by omega)
   exact e (plc_inj (by omega) (by omega) h0 (by omega) b)
/-- The symbols with codes are laid so. -/
def SyOk (z : Nat → Int) (n : Nat) (sy : Nat → Nat) : Prop := ∀ i, i < n → 1 ≤ z i → sy (plc z n i) = i
/-- Is there one code, of length 1, or none? -/
def fewB (c : Nat → Nat) : Bool := ((List.range 14).all fun l => c (l + 2) == 0) && decide (c 1 ≤ 1)
theorem fewB_iff (c : Nat → Nat) : fewB c = true ↔ (∀ l, l < 14 → c (l + 2) = 0) ∧ c 1 ≤ 1 := by
 unfold fewB
 rw [Bool.and_eq_true, List.all_eq_true, decide_eq_true_iff]
 exact ⟨fun h => ⟨fun l hl => by simpa using h.1 l (List.mem_range.2 hl), h.2⟩, fun h => ⟨fun l hl => by simpa using h.1 l (List.mem_range.1 hl), h.2⟩⟩
/- Why a stream is no stream: one of three. -/
/-- The reason is none, or one of the document's three. -/
structure Wy (σ : St) : Prop where
 le : σ.why ≤ 3
theorem Wy.bit {s : ByteArray} {σ : St} (h : Wy σ) : Wy (bitF s σ).2 := by
 unfold bitF
 split
 · exact h
 ·
  split
  · exact ⟨by show 2 ≤ 3; omega⟩
  · exact ⟨h.le⟩
theorem Wy.num {s : ByteArray} : ∀ (n : Nat) {σ : St}, Wy σ → Wy (numF s n σ).2
 | 0, _, h => h
 | n + 1, _, h => Wy.num n h.bit
theorem Wy.stop {σ : St} (h : Wy σ) (y : Nat) (hy : y ≤ 3 := by decide) : Wy (stopF σ y) := by
 unfold stopF
 split
 · exact ⟨hy⟩
 · exact h
theorem Wy.put {σ : St} (h : Wy σ) (c : UInt8) : Wy (putF σ c) := by
 unfold putF
 split
 · exact h
 ·
  split
  · exact ⟨Nat.le_refl _⟩
  · exact ⟨h.le⟩
theorem Wy.align {σ : St} (h : Wy σ) : Wy (alignF σ) := ⟨h.le⟩
theorem Wy.sym {s : ByteArray} {c : Nat → ByteArray} {n : Nat} : ∀ (f : Nat) (cur : ByteArray) {σ : St}, Wy σ → Wy (symGo s c n f cur σ).2
 | 0, _, _, h => h
 |
  f + 1, cur, σ, h => by
  simp only [symGo]
  split
  · exact h
  ·
   split
   ·
    split
    · exact Wy.sym f _ h.bit
    · exact h.bit
   · exact h.stop 1
theorem Wy.symF {s : ByteArray} {c : Nat → ByteArray} {n : Nat} {σ : St} (h : Wy σ) : Wy (symF s c n σ).2 := Wy.sym 17 _ h
theorem Wy.pairEnd {n back : Nat} {σ : St} (h : Wy σ) : Wy (pairEnd n back σ) := by
 unfold Go.Proofs.YtecddphahiadlaaGreatDoor.pairEnd
 split
 · exact h
 ·
  split
  · exact h.stop 1
  ·
   split
   · exact h.stop 3
   · exact ⟨h.le⟩
theorem Wy.pairF {s : ByteArray} {c : Nat → ByteArray} {n y : Nat} {σ : St} (h : Wy σ) : Wy (pairF s c n y σ) := by
 have h1 : Wy (Go.Proofs.YtecddphahiadlaaGreatDoor.symF s c n (numF s (pairM y) σ).2).2 := (h.num _).symF
 unfold Go.Proofs.YtecddphahiadlaaGreatDoor.pairF pairDist
 generalize Go.Proofs.YtecddphahiadlaaGreatDoor.symF s c n (numF s (pairM y) σ).2 = k at h1 ⊢
 split
 ·
  unfold distSt
  split
  · exact h1.stop 1
  · exact h1
 · exact (h1.num _).pairEnd
theorem Wy.stepF {s : ByteArray} {c : Nat → ByteArray} {n there : Nat} {k : Int × St} (h : Wy k.2) : Wy (stepF s c n there k).2 := by
 unfold Go.Proofs.YtecddphahiadlaaGreatDoor.stepF
 split
 · exact h
 ·
  split
  · exact h.put _
  ·
   split
   · exact h.stop 1
   · exact h.pairF
theorem codedGo_wy {s : ByteArray} {l : Nat → ByteArray} {nl : Nat} {d : Nat → ByteArray} {nd : Nat} : ∀ (f : Nat) {σ : St}, Wy σ → Wy (codedGo s l nl d nd f σ)
 | 0, _, h => h
 |
  f + 1, σ, h => by
  simp only [codedGo]
  split
  · exact h
  ·
   split
   · exact h.symF.stepF
   · exact codedGo_wy f h.symF.stepF
theorem headGo_wy {s : ByteArray} : ∀ (r i : Nat) (f : Nat → Nat) {σ : St}, Wy σ → Wy (headGo s r i f σ).2
 | 0, _, _, _, h => h
 | r + 1, i, _, _, h => headGo_wy r (i + 1) _ (h.num 3)
theorem Wy.lenStep {s : ByteArray} {L : List Int} {k : Int × St} (h : Wy k.2) : Wy (lenStep s L k).2.2.2 := by
 have h2 : Wy (numF s 2 k.2).2 := Wy.num 2 h
 have h3 : Wy (numF s 3 k.2).2 := Wy.num 3 h
 have h7 : Wy (numF s 7 k.2).2 := Wy.num 7 h
 unfold Go.Proofs.YtecddphahiadlaaGreatDoor.lenStep
 generalize numF s 2 k.2 = q2 at h2 ⊢
 generalize numF s 3 k.2 = q3 at h3 ⊢
 generalize numF s 7 k.2 = q7 at h7 ⊢
 split
 · exact h
 ·
  split
  ·
   split
   · exact h.stop 1
   · exact h2
  ·
   split
   · exact h3
   · exact h7
theorem lenGo_wy {s : ByteArray} {c : Nat → ByteArray} {n : Nat} : ∀ (f : Nat) (L : List Int) {σ : St}, Wy σ → Wy (lenGo s c n f L σ).2
 | 0, _, _, h => h
 |
  f + 1, L, σ, h => by
  simp only [lenGo]
  split
  ·
   split
   · exact h.symF.lenStep
   · exact lenGo_wy f _ h.symF.lenStep
  ·
   show Wy (if n < L.length then stopF σ 1 else σ)
   split
   · exact h.stop 1
   · exact h
theorem Wy.stop29 {p : Nat × St} (h : Wy p.2) : Wy (stop29 p) := by
 unfold Go.Proofs.YtecddphahiadlaaGreatDoor.stop29
 split
 · exact h.stop 1
 · exact h
theorem bytesF_wy {s : ByteArray} : ∀ (k : Nat) {σ : St}, Wy σ → Wy (bytesF s k σ)
 | 0, _, h => h
 |
  k + 1, σ, h => by
  simp only [bytesF]
  split
  · exact bytesF_wy k ((h.num 8).put _)
  · exact h
theorem plainHead_wy {s : ByteArray} {σ : St} (h : Wy σ) : Wy (plainHead s σ).2 := by
 have h1 : Wy (numF s 16 (alignF σ)).2 := Wy.num 16 h.align
 unfold plainHead
 generalize numF s 16 (alignF σ) = A at h1 ⊢
 have h2 : Wy (numF s 16 A.2).2 := Wy.num 16 h1
 generalize hC : numF s 16 A.2 = C at h2
 simp only [hC]
 split
 · exact h2.stop 1
 · exact h2
theorem headF_wy {s : ByteArray} {σ : St} (h : Wy σ) : Wy (headF s σ).st := by
 have h1 : Wy (numF s 5 σ).2 := Wy.num 5 h
 unfold headF
 generalize numF s 5 σ = A at h1 ⊢
 have h2 : Wy (numF s 5 (stop29 A)).2 := Wy.num 5 h1.stop29
 generalize numF s 5 (stop29 A) = C at h2 ⊢
 have h3 : Wy (numF s 4 (stop29 C)).2 := Wy.num 4 h2.stop29
 generalize numF s 4 (stop29 C) = D at h3 ⊢
 exact h3
theorem lensF_wy {s : ByteArray} {n many : Nat} {σ : St} (h : Wy σ) : Wy (lensF s n many σ).2 := by
 have h1 := headGo_wy (s := s) many 0 (fun _ => 0) h
 unfold lensF
 generalize headGo s many 0 (fun _ => 0) σ = a at h1 ⊢
 unfold lensTail
 split
 · exact h1
 ·
  split
  · exact h1.stop 1
  · exact lenGo_wy _ _ h1
theorem ownF_wy {s : ByteArray} {σ : St} (h : Wy σ) : Wy (ownF s σ).2 := by
 have h1 := headF_wy (s := s) h
 unfold ownF
 generalize headF s σ = hd at h1 ⊢
 split
 · exact h1
 ·
  have h2 := lensF_wy (s := s) (n := hd.a + hd.b + 258) (many := hd.c + 4) h1
  show Wy (ownEnd _ _ _)
  unfold ownEnd
  split
  · exact h2.stop 1
  · exact h2
theorem blockF_wy {s : ByteArray} {kind : Nat} {σ : St} (h : Wy σ) : Wy (blockF s kind σ) := by
 unfold blockF
 split
 · exact bytesF_wy _ (plainHead_wy h)
 ·
  split
  · exact codedGo_wy _ h
  ·
   split
   · exact codedGo_wy _ (ownF_wy h)
   · exact h.stop 1
theorem runStep_wy {s : ByteArray} {σ : St} (h : Wy σ) : Wy (runStep s σ).2 := by
 have h1 : Wy (numF s 2 (bitF s σ).2).2 := Wy.num 2 h.bit
 unfold runStep
 generalize numF s 2 (bitF s σ).2 = q at h1 ⊢
 split
 · exact h1
 ·
  have h2 := blockF_wy (s := s) (kind := q.1) h1
  exact ⟨h2.le⟩
theorem runGo_wy {s : ByteArray} : ∀ (f : Nat) {σ : St}, Wy σ → Wy (runGo s f σ)
 | 0, _, h => h
 |
  f + 1, σ, h => by
  simp only [runGo]
  split
  ·
   split
   · exact runStep_wy h
   · exact runGo_wy f (runStep_wy h)
  · exact h
theorem runF_wy (s : ByteArray) : Wy (runF s) := runGo_wy _ ⟨Nat.zero_le _⟩
/- A string's copy, as the library makes it. -/
theorem make_bytes (n : Nat) (h : n ≤ 140737488400000) (W : World) : (Instr.makeSlice 80 (.int .i64 (n : Int)) (.int .i64 (n : Int))).run Tryz.prog W = .ok (.slice (some ⟨W.heap.size, 0, none⟩) n n) (W.alloc (.cells (madeCells #[.int .u8 0] n) 5)) := by
 obtain ⟨i0, hi0, hz0, hs0, hby⟩ := info_parts Tryz.info5
 have h := run_make (P := Tryz.prog) W 80 5 i0 (.int .u8 0) Tryz.underlying80 hi0 hz0 .i64 .i64 (n : Int) (n : Int) (by omega) (by omega) (by rw [hby]; omega) (by omega)
 have e : ((n : Int).toNat * i0.size) = n := by rw [hs0]; simp
 rw [e] at h
 simpa [Value.cells] using h
theorem bytes_eq (T : ByteArray) : (⟨T.data.toList.toArray⟩ : ByteArray) = T := by
 apply ByteArray.ext; simp
set_option maxRecDepth 4000 in
set_option maxHeartbeats 1000000 in
theorem clone_any (T : ByteArray) (w : World) (hT : T.size ≤ 140737488400000) :
 Calls Tryz.prog 127 #[.string T] w fun e w' => e = .returned (.string T) ∧ Below w.heap.size w w' := by
 by_cases h0 : T.size = 0
 ·
  have hE : Hid (T = .empty) := by
   show T = _
   apply ByteArray.ext
   exact Array.eq_empty_of_size_eq_zero h0
  have e0 : ((T.size : Int) == 0) = true := by rw [beq_iff_eq]; omega
  go_enter Tryz.func127, Tryz.ntmps127
  go_wp2
  go_ret
  exact ⟨by rw [hE.out]; rfl, Below.refl _ _⟩
 ·
  have e0 : ((T.size : Int) == 0) = false := by rw [beq_eq_false_iff_ne]; omega
  have hp1 : (0 : Int) < (T.size : Int) := by omega
  obtain ⟨i0, hi0, hz0, hs0, hby⟩ := info_parts Tryz.info5
  have hinfo : (Tryz.prog.info? 5).map (·.size) = some 1 := by rw [hi0]; simp [hs0]
  have hco : Tryz.prog.cellsOf 5 = 1 := by kernel_rfl
  have hmk := make_bytes T.size hT
  have hMs : (madeCells #[.int .u8 0] T.size).size = T.size := by rw [size_madeCells]
  have hcp := Lib.run_copy_row_string (P := Tryz.prog) (w.alloc (.cells (madeCells #[.int .u8 0] T.size) 5)) 80 9 3 5 w.heap.size 0 T.size T.size T (madeCells #[.int .u8 0] T.size) 5 Tryz.underlying80 hinfo (heap_alloc_last w _) (Nat.le_refl _) (by omega)
  generalize madeCells #[.int .u8 0] T.size = M at hmk hMs hcp
  obtain ⟨Y, hY⟩ : ∃ Y, Y = (M.toList.take 0 ++ Lib.byteCells T.data.toList ++ M.toList.drop (0 + T.size)).toArray := ⟨_, rfl⟩
  rw [← hY] at hcp
  have hYl : Y.toList = Lib.byteCells T.data.toList := by
   rw [hY, List.toList_toArray, List.take_zero, List.nil_append, List.drop_of_length_le (by rw [Array.length_toList]; omega), List.append_nil]
  have hYs : Y.size = T.size := by rw [← Array.length_toList, hYl, Lib.byteCells_length]; exact Array.length_toList
  have hgY : ((w.alloc (.cells M 5)).setRow w.heap.size Y).heap[w.heap.size]? = some (.cells Y 5 (0, 0)) := setRow_heap _ _ M _ 5 (0, 0) (heap_alloc_last w _)
  have hbe : Below w.heap.size w ((w.alloc (.cells M 5)).setRow w.heap.size Y) := ((Below.refl _ _).alloc (Nat.le_refl _) _).trans ⟨rfl, rfl, rfl, by simp, fun k hk => setRow_other _ _ _ _ (by omega)⟩
  have hne : T.data.toList ≠ [] := fun e => h0 (by have : T.data.toList.length = T.size := Array.length_toList; rw [e] at this; simp at this; omega)
  have hlen : T.data.toList.length = T.size := Array.length_toList
  have hus := Lib.run_unsafeString_row (P := Tryz.prog) ((w.alloc (.cells M 5)).setRow w.heap.size Y) 196 3 9 5 Tryz.underlying196 hco w.heap.size Y.size (by unfold World.shape?; rw [hgY]) T.data.toList hne (by omega) (by omega) (fun j x hj => Lib.cells_of_row hgY Y.size j _ (by rw [List.take_of_length_le (by rw [Array.length_toList]; exact Nat.le_refl _), hYl]; simp [Lib.byteCells, hj]))
  rw [hlen, bytes_eq] at hus
  have hbf := Lib.below_freeze hbe (p := ⟨w.heap.size, 0, none⟩) (Nat.le_refl _) T.size
  generalize (w.alloc (.cells M 5)).setRow w.heap.size Y = w2 at hcp hus hbf
  clear hgY hbe hYl hYs hY hMs hlen
  go_enter Tryz.func127, Tryz.ntmps127
  go_wp2
  go_ret
  exact ⟨rfl, hbf⟩
set_option maxHeartbeats 400000 in
theorem sclone_any (T : ByteArray) (w : World) (hT : T.size ≤ 140737488400000) :
 Calls Tryz.prog 108 #[.string T] w fun e w' => e = .returned (.string T) ∧ Below w.heap.size w w' := by
 go_enter Tryz.func108, Tryz.ntmps108
 go_wp2_with fail
 refine (clone_any T _ hT).mono ?_
 rintro e w1 ⟨rfl, hb⟩
 go_wp2
 go_ret
 exact ⟨rfl, hb⟩
end Go.Proofs.YtecddphahiadlaaGreatDoor
