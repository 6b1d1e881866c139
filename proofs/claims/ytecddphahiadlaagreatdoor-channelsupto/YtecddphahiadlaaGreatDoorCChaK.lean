import Derived.Test.YtecddphahiadlaaGreatDoorCChaH
/- Channels: step: a call of a reader. -/
namespace Go.Proofs.YtecddphahiadlaaGreatDoor
open Go.RowKit
section
variable {w0 w : World} {col : Nat → Nat} {gW : Nat} {f : Nat → Value} {x : Nat → List Value} {WL : List We} {RL : List Re} {j : Nat}
set_option maxRecDepth 8000 in
set_option maxHeartbeats 8000000 in
theorem ChaS.stepR11 (h : ChaS w0 col w gW f x WL RL j) (a b wh : Int) (S : ByteArray) (hb1 : b ≤ 9223372036854775807) (hb0 : -9223372036854775808 ≤ b) (hw1 : wh ≤ 9223372036854775807) (hw0 : -9223372036854775808 ≤ wh) (hS : S.size ≤ 6000000) (hj : j ≤ 1100000) (h0 : 1 < w0.heap.size) (hord : OrdIn w0 1) :
 Calls Tryz.prog 7 #[ptr gW, opV 11 a b wh S] w (ChaE w0 gW (j + 1)) := by
 have hb : Below w.heap.size w (w.alloc (.cells #[.int .i64 11, .int .i64 a, .int .i64 b, .int .i64 wh, .string S] 28)) := (Below.refl _ _).alloc (Nat.le_refl _) _
 have S2 := h.made hb
 have HQ : Hid (_) := S2.laterC
 have HK : Hid (∀ k : Nat, k < RL.length → Calls Tryz.prog 26 #[ptr gW, .int .i64 (k : Nat), opV 11 a b wh S] (w.alloc (.cells #[.int .i64 11, .int .i64 a, .int .i64 b, .int .i64 wh, .string S] 28)).drew fun r w' => r = .returned (.bool true) ∧ Cha w0 w' gW WL.length RL.length (j + 1)) := fun k hk2 => (S2.made (w' := (w.alloc (.cells #[.int .i64 11, .int .i64 a, .int .i64 b, .int .i64 wh, .string S] 28)).drew) ⟨rfl, rfl, rfl, Nat.le_refl _, fun _ _ => rfl⟩).readsK hk2 11 a b wh S (Or.inr (Or.inr rfl)) hb1 hb0 hS hj h0 hord
 unfold opV at *
 obtain ⟨_, ⟨ao, cap, p2⟩⟩ := h.picks
 have q2 := (hb.cell (p := ⟨gW, 4, none⟩) h.mem.row.lt).trans p2
 have hmany : RL.length ≤ 1100003 := by have := h.many; omega
 clear h hb S2 hb1 hb0 hS hj h0 hord
 generalize WL.length = nW at *
 generalize RL.length = nR at *
 unfold ptr at *
 by_cases hn : nR = 0
 ·
  subst hn
  clear HK
  go_enter Tryz.func7, Tryz.ntmps7
  go_wp2
  go_ret
  exact ⟨rfl, _, _, HQ.out⟩
 ·
  have hn2 : 0 < nR := by omega
  have hn3 : ((nR : Int) == 0) = false := by rw [beq_eq_false_iff_ne]; omega
  have hn4 : (nR == 0) = false := by rw [beq_eq_false_iff_ne]; omega
  have HP : Hid (_) := pickw_any wh nR (w.alloc (.cells #[.int .i64 11, .int .i64 a, .int .i64 b, .int .i64 wh, .string S] 28)).drew hw0 hw1 hn2 (by omega)
  clear HQ
  go_enter Tryz.func7, Tryz.ntmps7
  go_wp2_with fail
  go_region_with (first | (go_at_call 25; refine Calls.mono HP.out ?_; rintro r w2 ⟨k, hk, rfl, rfl⟩) | (go_at_call 26; refine Calls.mono (HK.out _ (by assumption)) ?_; rintro r w3 ⟨rfl, hQ⟩; have HQ3 : Hid (_) := hQ; clear hQ))
  all_goals (go_wp2; go_ret; exact ⟨rfl, _, _, HQ3.out⟩)
end
/- Channels: begun. -/
def nilS : Value := .slice none 0 0
section
variable {w0 w : World} {col : Nat → Nat} {gW : Nat} {f : Nat → Value} {x : Nat → List Value} {WL : List We} {RL : List Re} {j : Nat}
theorem cha_new (w : World) : ChaS w (fun _ => 0) (w.alloc (.cells #[nilS, nilS, nilS, nilS, nilS, nilS, nilS, nilS] 63)) w.heap.size (fun _ => nilS) (fun _ => []) [] [] 0 := by
 have hb : Below w.heap.size w (w.alloc (.cells #[nilS, nilS, nilS, nilS, nilS, nilS, nilS, nilS] 63)) := (Below.refl _ _).alloc (Nat.le_refl _) _
 refine ⟨⟨?_, ⟨Nat.le_refl _, by simp, rfl⟩, fun s _ _ => ⟨World.ownsRow_nil _ _ _ _, fun g e => by simp [nilS, Value.ownBlock] at e⟩, fun i e he => by simp at he, fun i e he => by simp at he, hb.size⟩, hb, rfl, rfl, rfl, rfl, rfl, rfl, fun i e he => by simp at he, fun i e he => by simp at he, by simp⟩
 exact World.rowIs_alloc w #[nilS, nilS, nilS, nilS, nilS, nilS, nilS, nilS] 63 (fun _ => nilS) (fun i hi => by match i, hi with | 0, _ => rfl | 1, _ => rfl | 2, _ => rfl | 3, _ => rfl | 4, _ => rfl | 5, _ => rfl | 6, _ => rfl | 7, _ => rfl)
/-- A place of a list, as long as nothing of the World's is changed. -/
theorem Wld.atK {B : Nat} (h : Wld B col w gW f x WL RL) {s : Nat} (hs1 : 1 ≤ s) (hs6 : s ≤ 6) {i : Nat} {v : Value} (hv : (x s)[i]? = some v) {n : Nat} (hn : (x s).length = n) : ∃ g cap, ∀ w1 : World, (∀ b s', s' < 10 → Own B col s' w b → w1.heap[b]? = w.heap[b]?) → w1.cell? ⟨gW, s + 1, none⟩ = some (.slice (some ⟨g, 0, none⟩) n cap) ∧ w1.cell? ⟨g, i, none⟩ = some v := by
 obtain ⟨g, cap, h1, h2, _, ho, _⟩ := h.get hs1 hs6 i hv
 refine ⟨g, cap, fun w1 hk => ⟨?_, ?_⟩⟩
 · rw [World.cell?_of_block (hk gW 0 (by omega) h.own), h1, hn]
 · rw [World.cell?_of_block (hk g s (by omega) ho), h2]
/-- A place of a list. -/
def PlW (gW s g cap i n : Nat) (v : Value) (w : World) : Prop := w.cell? ⟨gW, s, none⟩ = some (.slice (some ⟨g, 0, none⟩) n cap) ∧ w.cell? ⟨g, i, none⟩ = some v
/-- The last writer takes a byte. -/
theorem ChaS.firstByte {gx gv gu : Nat} (h : ChaS w0 col w gW f x (WL ++ [newE gx gv gu 1]) RL j) : ∃ g1 cap1 g2 cap2, PlW gW 2 g1 cap1 WL.length (WL.length + 1) (ptr gx) w ∧
 Calls Tryz.prog 11 #[ptr gx, .int .i64 0, .string ⟨#[97]⟩] w fun r w1 => r = .returned (.tuple #[.int .i64 1, .int .i64 0]) ∧ PlW gW 2 g1 cap1 WL.length (WL.length + 1) (ptr gx) w1 ∧ PlW gW 3 g2 cap2 WL.length (WL.length + 1) (ptr gv) w1 ∧
  ∀ wz : World, wz.heap = w1.heap → wz.os = w1.os → wz.tape = w1.tape → wz.output = w1.output → Calls Tryz.prog 23 #[ptr gv, .int .i64 0, .string ⟨#[97]⟩] wz fun r w2 => r = .returned (.tuple #[.int .i64 1, .int .i64 0]) ∧ PlW gW 3 g2 cap2 WL.length (WL.length + 1) (ptr gv) w2 ∧ ∃ nW nR, Cha w0 w2 gW nW nR (j + 1) := by
 have hi : (WL ++ [newE gx gv gu 1])[WL.length]? = some (newE gx gv gu 1) := by simp
 have hl : (WL ++ [newE gx gv gu 1]).length = WL.length + 1 := by simp
 obtain ⟨g1, cap1, k1⟩ := h.mem.atK (s := 1) (by omega) (by omega) (i := WL.length) (v := ptr gx) (by rw [h.x1]; exact map_at hi) (n := WL.length + 1) (by rw [h.x1, List.length_map, hl])
 obtain ⟨g2, cap2, k2⟩ := h.mem.atK (s := 2) (by omega) (by omega) (i := WL.length) (v := ptr gv) (by rw [h.x2]; exact map_at hi) (n := WL.length + 1) (by rw [h.x2, List.length_map, hl])
 obtain ⟨m, a, hma, hC⟩ := h.writeX hi 0 ⟨#[97]⟩ (by show 1 ≤ _; omega)
 obtain ⟨hm, ha⟩ := hma 0 rfl (by show 0 < 1; omega) rfl
 have hm1 : m = 1 := by rw [hm]; rfl
 subst hm1
 subst ha
 refine ⟨g1, cap1, g2, cap2, k1 w (fun _ _ _ _ => rfl), hC.mono ?_⟩
 rintro r w1 ⟨hr, hk, hD⟩
 exact ⟨hr, k1 w1 hk, k2 w1 hk, fun wz e1 e2 e3 e4 => (hD wz e1 e2 e3 e4).mono fun r w2 ⟨hr2, hk2, hc⟩ => ⟨hr2, k2 w2 hk2, _, _, hc⟩⟩
end
/-- What begun gives. -/
def BegP (w0 : World) (e : Ending) (w' : World) : Prop := ∃ gW, e = .returned (.tuple #[ptr gW, .bool true]) ∧ ∃ nW nR, Cha w0 w' gW nW nR 4
set_option maxRecDepth 8000 in
set_option maxHeartbeats 400000 in
theorem begun_any (c : Int) (w : World) : Calls Tryz.prog 6 #[.int .i64 c] w (BegP w) := by
 have HW : Hid (_) := (cha_new w).writersC c (by omega)
 unfold ptr nilS at HW
 go_enter Tryz.func6, Tryz.ntmps6
 go_wp2_with fail
 refine Calls.mono HW.out ?_
 rintro r w1 ⟨rfl, _, _, col1, f1, x1, WL1, RL1, h1, rfl, rfl⟩
 have HR : Hid (_) := h1.readersC c (by omega)
 unfold ptr at HR
 clear HW h1
 go_wp2_with fail
 refine Calls.mono HR.out ?_
 rintro r w2 ⟨rfl, _, _, col2, f2, x2, WL2, RL2, h2, rfl, rfl⟩
 have HW2 : Hid (_) := h2.writers_ok 1 (by omega) (by omega) (by omega)
 unfold ptr at HW2
 clear HR h2
 go_wp2_with fail
 refine Calls.mono HW2.out ?_
 rintro r w3 ⟨rfl, col3, f3, x3, gx, gv, gu, h3⟩
 obtain ⟨g1, cap1, g2, cap2, p1, HC0⟩ := (h3.made (w' := w3.drew) ⟨rfl, rfl, rfl, Nat.le_refl _, fun _ _ => rfl⟩).firstByte
 have hn : WL2.length ≤ 5 := by have := h3.many.1; rw [List.length_append] at this; change WL2.length + 1 ≤ _ at this; omega
 have HC : Hid (_) := HC0
 clear HW2 h3 HC0
 generalize WL2.length = n at *
 obtain ⟨L, hL⟩ : ∃ L, L = n + 1 := ⟨_, rfl⟩
 rw [← hL] at p1 HC
 unfold ptr PlW at *
 have i1 : ((L : Int) - 1) = (n : Int) := by omega
 have i2 : (n : Int) < (L : Int) := by omega
 have i3 : (0 : Int) ≤ (n : Int) := by omega
 have i4 : IntKind.i64.wrap (n : Int) = (n : Int) := by rw [IntKind.wrap_i64]; omega
 clear hL hn
 go_wp2_with fail
 go_region_held3 (fun w' => w'.cell? ⟨w.heap.size, 2, none⟩ = some (.slice (some ⟨g1, 0, none⟩) L cap1) ∧ w'.cell? ⟨g1, n, none⟩ = some (.pointer (some ⟨gx, 0, none⟩))) (first | exact p1 | assumption)
  (first | (go_at_call 11; refine Calls.mono HC.out ?_; rintro r w4 ⟨rfl, y1, y2, HD0⟩))
 have HD : Hid (_) := HD0
 clear HC HD0 p1 y1
 go_wp2_with fail
 go_region_held3 (fun w' => w'.cell? ⟨w.heap.size, 3, none⟩ = some (.slice (some ⟨g2, 0, none⟩) L cap2) ∧ w'.cell? ⟨g2, n, none⟩ = some (.pointer (some ⟨gv, 0, none⟩))) (first | exact y2 | assumption)
  (first | (go_at_call 23; refine Calls.mono (HD.out _ (by rfl) (by rfl) (by rfl) (by rfl)) ?_; rintro r w5 ⟨rfl, y3, hQ⟩))
 have HQ : Hid (_) := hQ
 clear HD hQ y2 y3
 go_wp2
 go_ret2
 exact ⟨w.heap.size, rfl, HQ.out⟩
end Go.Proofs.YtecddphahiadlaaGreatDoor
