/- A line of the statements: carry, reads. -/
import Derived.Test.YtecddphahiadlaaGreatDoorCLinO
import Derived.Deep.RegionWith
import Derived.BigRegion
namespace Go.Proofs.YtecddphahiadlaaGreatDoor
open Go.RowKit

theorem take_size (L : List UInt8) (m : Nat) : (⟨(L.take m).toArray⟩ : ByteArray).size = min m L.length := by
  rw [size_list]
  show (L.take m).length = _
  rw [List.length_take]

set_option maxRecDepth 8000 in
set_option maxHeartbeats 400000 in
theorem carry_any {w0 w : World} {gl gw gr N : Nat} {k : Lk} {Q : Nat → List UInt8} {tk wd : Nat} {L : List UInt8} {n : Nat} {closed : Bool} {A : ByteArray} {R : Nat → List UInt8} {X : ByteArray} {P : Nat → List UInt8} {j : Nat}
    (h : MLn w0 w gl gw gr N k Q tk wd L n closed A R) (hI : LnI N k Q tk L n closed A R X P j) (hx : X.size ≤ 10000000000) (most : Int) (hm : most ≤ 9223372036854775807) (hm0 : -9223372036854775808 ≤ most) (h0 : 1 < w0.heap.size) (hord : OrdIn w0 1) :
    Calls Tryz.prog 29 #[.pointer (some ⟨gl, 0, none⟩), .int .i64 most] w fun e w' => e = .returned (.tuple #[.int .i64 ((⟨(L.take most.toNat).toArray⟩ : ByteArray).size : Nat), .bool true]) ∧ MLn w0 w' gl gw gr N { k with wire := A ++ ⟨(L.take most.toNat).toArray⟩ } Q tk wd (L.drop most.toNat) n closed (A ++ ⟨(L.take most.toNat).toArray⟩) R := by
  obtain ⟨ha0, ha1, _⟩ := hI.carried most.toNat
  have hsz := hI.size.2
  have hnn := hI.nn
  have hwi := hI.wire
  have hss := take_size L most.toNat
  have HW : Hid (_) := h.wire most (by omega) hm hm0
  have c1 := (h.cell 1 (by omega)).1
  rw [(lnCell_fix N gw gr k).2.1] at c1
  clear h hI
  obtain ⟨s, hs⟩ : ∃ s : ByteArray, s = ⟨(L.take most.toNat).toArray⟩ := ⟨_, rfl⟩
  rw [← hs] at hss ha1 HW ⊢
  have hsl : s.size ≤ L.length := by omega
  have hcond : most < 0 ∧ s = .empty ∨ 0 ≤ most ∧ (s.size : Int) ≤ most := by
    by_cases q : most < 0
    · refine Or.inl ⟨q, ?_⟩
      rw [hs, show most.toNat = 0 by omega]
      rfl
    · exact Or.inr ⟨by omega, by omega⟩
  clear hs hss
  go_enter Tryz.func29, Tryz.ntmps29
  go_wp2_with fail
  refine Calls.mono HW.out ?_
  rintro e w1 ⟨rfl, h1⟩
  have a1 := h1.cell 28 (by omega)
  rw [(lnCell_fix N gw gr k).2.2.2.2, hwi] at a1
  obtain ⟨a1, a1f⟩ := a1
  have a2 := (h1.cell 2 (by omega)).1
  rw [(lnCell_fix N gw gr k).2.2.1] at a2
  have h2 := h1.setWire (A ++ s)
  have HF : Hid (_) := h2.feed s ha0 (by omega) h0 hord
  clear HW c1 h1 h2
  rw [ha1] at HF
  have hAs : A.size + s.size ≤ 10000000000 := by omega
  go_wp2_with fail
  refine Calls.mono HF.out ?_
  rintro e w2 ⟨rfl, h3⟩
  have h00 : ((0 : Nat) : Int) = 0 := rfl
  rw [h00]
  clear HF a1 a1f a2 h00
  rcases hcond with ⟨hc, rfl⟩ | ⟨hc, hc2⟩
  · have d1 : decide (((ByteArray.empty.size : Nat) : Int) ≤ most) = false := by rw [decide_eq_false_iff_not]; show ¬ ((0 : Int) ≤ most); omega
    go_wp2
    go_ret2
    exact ⟨rfl, h3⟩
  · go_wp2
    go_ret2
    exact ⟨rfl, h3⟩

theorem begB_size {a b : ByteArray} (h : begB a b = true) : a.size ≤ b.size := by
  unfold begB at h
  rw [decide_eq_true_iff] at h
  have := h.length_le
  rw [← size_list, ← size_list] at this
  exact this

set_option maxRecDepth 8000 in
set_option maxHeartbeats 400000 in
theorem reads_any {w0 w : World} {gl gw gr N : Nat} {k : Lk} {Q : Nat → List UInt8} {tk wd : Nat} {L : List UInt8} {n : Nat} {closed : Bool} {A : ByteArray} {R : Nat → List UInt8} {X : ByteArray} {P : Nat → List UInt8} {j : Nat}
    (h : MLn w0 w gl gw gr N k Q tk wd L n closed A R) (hI : LnI N k Q tk L n closed A R X P j) (hN1 : 1 ≤ N) (ch : Int) (c : Nat) (hch : ch ≤ 9223372036854775807) (hch0 : -9223372036854775808 ≤ ch) (hc : (c : Int) = pickN ch N) (most : Int) (hm : most ≤ 9223372036854775807) (hm0 : -9223372036854775808 ≤ most) :
    Calls Tryz.prog 30 #[.pointer (some ⟨gl, 0, none⟩), .int .i64 ch, .int .i64 most] w fun e w' => e = .returned (.bool true) ∧ MLn w0 w' gl gw gr N { k with read := fun d => if d = c then k.read c ++ ⟨(nextF N A R c most.toNat).toArray⟩ else k.read d } Q tk wd L n closed A (readR R c (nextF N A R c most.toNat)) := by
  have hN8 := h.few
  have hbd := pickN_bd ch N (by omega)
  rw [← hc] at hbd
  have hcN : c < N := by omega
  have hc8 : c < 8 := by omega
  have hcI : (c : Int) < 8 := by omega
  obtain ⟨z, hz⟩ := h.got
  have hbeg := (hI.readC c most.toNat hcN hz).2
  have htk := hI.taken_few c hcN
  have hrs := begB_size hbeg
  have hss : (⟨(nextF N A R c most.toNat).toArray⟩ : ByteArray).size ≤ most.toNat := by
    rw [size_list]
    show (nextF N A R c most.toNat).length ≤ _
    unfold nextF
    exact List.length_take_le _ _
  have HR : Hid (_) := h.readC c hcN most hm hm0
  have c0 := (h.cell 0 (by omega)).1
  rw [(lnCell_fix N gw gr k).1] at c0
  have c2 := (h.cell 2 (by omega)).1
  rw [(lnCell_fix N gw gr k).2.2.1] at c2
  have HX : Hid (∀ w', MLn w0 w' gl gw gr N k Q tk wd L n closed A (readR R c (nextF N A R c most.toNat)) → MLn w0 (w'.setCell ⟨gl, 11 + c, none⟩ (.string (k.read c ++ ⟨(nextF N A R c most.toNat).toArray⟩))) gl gw gr N { k with read := fun d => if d = c then k.read c ++ ⟨(nextF N A R c most.toNat).toArray⟩ else k.read d } Q tk wd L n closed A (readR R c (nextF N A R c most.toNat))) := fun w' q => q.setRead c hc8 _
  clear h hI hz z
  obtain ⟨s, hs⟩ : ∃ s : ByteArray, s = ⟨(nextF N A R c most.toNat).toArray⟩ := ⟨_, rfl⟩
  rw [← hs] at hss hbeg hrs HR HX ⊢
  have hcond : most < 0 ∧ s = .empty ∨ 0 ≤ most ∧ (s.size : Int) ≤ most := by
    by_cases q : most < 0
    · refine Or.inl ⟨q, ?_⟩
      have e : s.data.toList = [] := List.eq_nil_of_length_eq_zero (by rw [← size_list]; omega)
      exact bytes_ext e
    · exact Or.inr ⟨by omega, by omega⟩
  obtain ⟨R2, hR2⟩ : ∃ R2, R2 = readR R c (nextF N A R c most.toNat) := ⟨_, rfl⟩
  rw [← hR2] at HR HX ⊢
  clear hs hss hR2
  obtain ⟨rd, hrd⟩ : ∃ rd, rd = k.read c := ⟨_, rfl⟩
  obtain ⟨ta, hta⟩ : ∃ ta, ta = k.taken c := ⟨_, rfl⟩
  rw [← hrd] at hbeg hrs HX ⊢
  rw [← hta] at hbeg hrs htk
  have HRD : Hid (rd = k.read c) := hrd
  have HTA : Hid (ta = k.taken c) := hta
  clear hrd hta
  go_enter Tryz.func30, Tryz.ntmps30
  go_wp2_with fail
  refine (pick_any ch N w hch0 hch (by omega) (by omega)).mono ?_
  rintro e w0' ⟨rfl, rfl⟩
  rw [← hc]
  clear hc
  go_wp2_with fail
  refine Calls.mono HR.out ?_
  rintro e w1 ⟨rfl, h1⟩
  have a1 := h1.cell (11 + c) (by omega)
  have a2 := h1.cell (3 + c) (by omega)
  rw [(lnCell_at N gw gr k c hc8).2.1, ← HRD.out] at a1
  rw [(lnCell_at N gw gr k c hc8).1, ← HTA.out] at a2
  obtain ⟨a1, a1f⟩ := a1
  obtain ⟨a2, a2f⟩ := a2
  have hF := HX.out w1 h1
  have hsz : rd.size + s.size ≤ 1500 := by rw [ByteArray.size_append] at hrs; omega
  clear HR c0 c2 HRD HTA HX h1 a2f
  have hF2 := hF.drew.drew
  clear hF
  go_wp2_with fail
  go_region
  go_wp2_with fail
  go_region_with (go_at_call 54; refine (begins_any (rd ++ s) ta _ (by unfold maxLen; omega) (by unfold maxLen; omega)).mono ?_; rintro e w2 ⟨rfl, rfl⟩)
  all_goals
    generalize (w1.setCell ⟨gl, 11 + c, none⟩ (.string (rd ++ s))).drew.drew = W2 at hF2 ⊢
    clear a1 a1f a2
    rcases hcond with ⟨hq, rfl⟩ | ⟨hq, hq2⟩
    · have d1 : decide (((ByteArray.empty.size : Nat) : Int) ≤ most) = false := by rw [decide_eq_false_iff_not]; show ¬ ((0 : Int) ≤ most); omega
      go_wp2
      go_ret
      exact ⟨rfl, hF2⟩
    · go_wp2
      go_ret
      exact ⟨rfl, hF2⟩

end Go.Proofs.YtecddphahiadlaaGreatDoor
