import Derived.Test.YtecddphahiadlaaGreatDoorCWtrW
import Derived.Test.YtecddphahiadlaaGreatDoorCRdrY
import Derived.Deep.LoopGhost
import Derived.Lib.SliceRun
/- slices.Clone of a list of lists. -/
namespace Go.Proofs.YtecddphahiadlaaGreatDoor
open Go.RowKit
theorem eql_rows (w : World) (a : Addr) (n c : Nat) : (binOp BinOp.eql 89 (.slice (some a) n c) (.slice none 0 0)).run Tryz.prog w = .ok (.bool false) w := Lib.run_eql_slice_some_nil (P := Tryz.prog) w a n c Tryz.underlying89
/-- A row that is owned, cell by cell. -/
theorem row_of_own {B : Nat} {w : World} {v : Value} {n : Nat} {l : List Value} (h : w.ownsRow B 80 1 v n l) (hn : 1 ≤ n) : ∃ g cap F, v = .slice (some ⟨g, 0, none⟩) n cap ∧ B ≤ g ∧ n ≤ cap ∧ cap ≤ maxLen ∧ w.rowIs g 80 cap F ∧ ∀ i, i < n → l[i]? = some (F i) := by
 obtain ⟨hl, q⟩ := h
 rcases q with ⟨_, q0⟩ | ⟨g, cap, cur, q, hb, hh, hc, hm, hs, ht⟩
 · omega
 ·
  refine ⟨g, cap, fun i => cur.getD i undef, q, hb, hc, hm, ⟨cur, hh, by omega, fun i hi => ?_⟩, fun i hi => ?_⟩
  ·
   have hi2 : i < cur.size := by omega
   rw [Array.getElem?_eq_getElem hi2]
   simp [Array.getD, hi2]
  ·
   have hi2 : i < cur.size := by omega
   rw [← ht, List.getElem?_take, if_pos (by omega), Array.getElem?_toList, Array.getElem?_eq_getElem hi2]
   simp [Array.getD, hi2]
set_option maxRecDepth 4000 in
set_option maxHeartbeats 400000 in
theorem rows_clone (gw N : Nat) (fq : Nat → Value) (w : World) (h : w.rowIs gw 80 N fq) (h1 : 1 ≤ N) (hN : N ≤ 8) (hone : ∀ i, i < N → (fq i).oneCell' = true) :
 Calls Tryz.prog 80 #[.slice (some ⟨gw, 0, none⟩) N N] w fun e w' => ∃ g cap F, e = .returned (.slice (some ⟨g, 0, none⟩) N cap) ∧ w.heap.size ≤ g ∧ w'.rowIs g 80 cap F ∧ (∀ i, i < N → F i = fq i) ∧ N ≤ cap ∧ cap ≤ maxLen ∧ Below w.heap.size w w' := by
 have hq := fun W => eql_rows W ⟨gw, 0, none⟩ N N
 obtain ⟨i0, hi0, hz0, hs0, hby⟩ : ∃ i0, Tryz.prog.info? 80 = some i0 ∧ i0.zero = some (.slice none 0 0) ∧ i0.size = 1 ∧ i0.bytes = 24 := info_parts (by kernel_rfl : (Tryz.prog.info? 80).map (fun i => (i.zero, i.size, i.bytes)) = some (some (.slice none 0 0), 1, 24))
 have hE : (w.alloc (.cells #[] 80)).ownsRow w.heap.size 80 1 (.slice (some ⟨w.heap.size, 0, none⟩) 0 0) 0 [] := ⟨rfl, Or.inr ⟨w.heap.size, 0, #[], rfl, Nat.le_refl _, heap_alloc_last w _, Nat.le_refl _, Nat.zero_le _, rfl, rfl⟩⟩
 have hln : ((List.range N).map fq).length = N * 1 := by simp
 have hnews : ∀ j u, ((List.range N).map fq)[j]? = some u → (w.alloc (.cells #[] 80)).cell? ((⟨gw, 0, none⟩ : Addr).add j) = some u := fun j u hu => by
  have hj : j < N := by have := (List.getElem?_eq_some_iff.1 hu).1; simpa using this
  rw [List.getElem?_map, List.getElem?_range hj] at hu
  have e : fq j = u := Option.some.inj hu
  rw [addr_add0, ← e]
  exact (h.alloc _).cell hj
 have hon : ∀ u ∈ (List.range N).map fq, u.oneCell' = true := fun u hu => by
  obtain ⟨j, hj, rfl⟩ := List.mem_map.1 hu
  exact hone j (List.mem_range.1 hj)
 have HF : Hid (∀ v' w', w'.ownsRow w.heap.size 80 1 v' N ((List.range N).map fq) → (w.alloc (.cells #[] 80)).grownBy w' (Value.slice (some ⟨w.heap.size, 0, none⟩) 0 0).ownBlock → ∃ g cap F, v' = .slice (some ⟨g, 0, none⟩) N cap ∧ w.heap.size ≤ g ∧ w'.rowIs g 80 cap F ∧ (∀ i, i < N → F i = fq i) ∧ N ≤ cap ∧ cap ≤ maxLen ∧ Below w.heap.size w w') := fun v' w' ho hg => by
  obtain ⟨g, cap, F, r1, r2, r3, r4, r5, r6⟩ := row_of_own ho h1
  have hs2 := hg.size
  have hsz : (w.alloc (.cells #[] 80)).heap.size = w.heap.size + 1 := by simp
  refine ⟨g, cap, F, r1, r2, r5, fun i hi => ?_, r3, r4, ⟨hg.os, hg.tape, hg.output, by omega, fun b hb => (hg.block b (by omega) (fun e => ?_)).trans (Below.heap_alloc w _ b hb)⟩⟩
  ·
   have := r6 i hi
   rw [List.getElem?_map, List.getElem?_range hi] at this
   exact (Option.some.inj this).symm
  ·
   have : b = w.heap.size := Option.some.inj e
   omega
 generalize (List.range N).map fq = news at hln hnews hon HF
 clear h hone
 go_enter Tryz.func80, Tryz.ntmps80
 go_wp2_with (first | (at_builtin; refine wpList_append_own _ rfl (.tmp 5) (.tmp 6) 89 rfl w.heap.size 80 i0 (.slice none 0 0) 1 24 Tryz.underlying89 hi0 hz0 hs0 hby rfl (by omega) (.slice (some ⟨w.heap.size, 0, none⟩) 0 0) 0 [] rfl hE ⟨gw, 0, none⟩ N N news rfl hln hnews hon (by unfold maxLen; omega) (by omega) (by simp) ?_) | fail)
 intro v' w' ho hg _
 obtain ⟨g, cap, F, rfl, r⟩ := HF.out v' w' ho hg
 clear ho hg HF hE hnews hon
 go_wp2
 go_ret
 exact ⟨g, cap, F, rfl, r⟩
/- Frames, plainly: what a text of frames gives to a sorter. -/
/-- The text is of whole frames, which bring P. -/
def Cuts (N : Nat) (l : List UInt8) (P : Nat → List UInt8) : Prop := ∀ z : Sp, z.fr = [] → takeS N z l = (true, ⟨[], fun c => z.ch c ++ P c⟩)
theorem cuts_nil (N : Nat) : Cuts N [] (fun _ => []) := fun z hz => by
 obtain ⟨fr, ch⟩ := z
 subst hz
 simp [takeS]
theorem takeS_cons {N : Nat} {z z' : Sp} {c : UInt8} (h : putS N z c = (true, z')) (l : List UInt8) : takeS N z (c :: l) = takeS N z' l := by
 simp only [takeS, h, if_true]
/-- The bytes of a frame behind its head. -/
theorem take_body (N : Nat) (a b : UInt8) (ch : Nat → List UInt8) : ∀ (l r : List UInt8), 1 ≤ l.length → r.length + l.length = b.toNat → takeS N ⟨a :: b :: r, ch⟩ l = (true, ⟨[], fun k => if k = a.toNat then ch k ++ (r ++ l) else ch k⟩)
 | [], r, h, _ => by simp at h
 |
  [c], r, _, h => by
  have hp : putS N ⟨a :: b :: r, ch⟩ c = (true, ⟨[], fun k => if k = a.toNat then ch k ++ (r ++ [c]) else ch k⟩) := by
   unfold putS
   simp only [List.length_cons, List.length_nil] at h
   rw [if_neg (by simp), if_neg (by simp), if_pos (by simp [List.getD]; omega)]
   rfl
  rw [takeS_cons hp]
  rfl
 |
  c :: d :: l, r, _, h => by
  have hp : putS N ⟨a :: b :: r, ch⟩ c = (true, ⟨a :: b :: (r ++ [c]), ch⟩) := by
   unfold putS
   simp only [List.length_cons] at h
   rw [if_neg (by simp), if_neg (by simp), if_neg (by simp [List.getD]; omega)]
   rfl
  rw [takeS_cons hp, take_body N a b ch (d :: l) (r ++ [c]) (by simp) (by simp at h ⊢; omega)]
  simp
/-- One frame more. -/
theorem Cuts.frame {N : Nat} {l : List UInt8} {P : Nat → List UInt8} (h : Cuts N l P) (c : Nat) (x : List UInt8) (hc : c < N) (hN : N ≤ 8) (h1 : 1 ≤ x.length) (h20 : x.length ≤ 20) :
 Cuts N (l ++ [UInt8.ofNat c, UInt8.ofNat x.length] ++ x) (fun k => if k = c then P k ++ x else P k) := fun z hz => by
 have ec : (UInt8.ofNat c).toNat = c := by rw [UInt8.toNat_ofNat']; omega
 have ex : (UInt8.ofNat x.length).toNat = x.length := by rw [UInt8.toNat_ofNat']; omega
 rw [List.append_assoc, takeS_app, h z hz]
 simp only [if_true, List.cons_append, List.nil_append]
 have p1 : putS N ⟨[], fun k => z.ch k ++ P k⟩ (UInt8.ofNat c) = (true, ⟨[UInt8.ofNat c], fun k => z.ch k ++ P k⟩) := by
  simp [putS, ec, hc]
 have p2 : putS N ⟨[UInt8.ofNat c], fun k => z.ch k ++ P k⟩ (UInt8.ofNat x.length) = (true, ⟨[UInt8.ofNat c, UInt8.ofNat x.length], fun k => z.ch k ++ P k⟩) := by
  simp [putS, ex, h1, h20]
 rw [takeS_cons p1, takeS_cons p2, take_body N _ _ _ x [] h1 (by rw [ex]; simp), ec]
 refine Prod.ext rfl ?_
 simp only [List.nil_append, Sp.mk.injEq, true_and]
 funext k
 split
 · rw [List.append_assoc]
 · rfl
/-- Texts one behind the other. -/
theorem Cuts.app {N : Nat} {l l2 : List UInt8} {P P2 : Nat → List UInt8} (h : Cuts N l P) (h2 : Cuts N l2 P2) : Cuts N (l ++ l2) (fun c => P c ++ P2 c) := fun z hz => by
 rw [takeS_app, h z hz]
 simp only [if_true]
 rw [h2 _ rfl]
 simp [List.append_assoc]
/- frames.Cut in memory: the rounds' steps. -/
/-- How many bytes there are on all channels. -/
def sumL : Nat → (Nat → List UInt8) → Nat
 | 0, _ => 0
 | N + 1, R => sumL N R + (R N).length
theorem sumL_same : ∀ (N : Nat) (R R' : Nat → List UInt8), (∀ i, i < N → R i = R' i) → sumL N R = sumL N R'
 | 0, _, _, _ => rfl
 |
  N + 1, R, R', h => by
  simp only [sumL]
  rw [sumL_same N R R' (fun i hi => h i (by omega)), h N (by omega)]
theorem sumL_drop : ∀ (N : Nat) (R : Nat → List UInt8) (c n : Nat), c < N → n ≤ (R c).length → sumL N (fun i => if i = c then (R c).drop n else R i) + n = sumL N R
 | 0, _, _, _, h, _ => by omega
 |
  N + 1, R, c, n, h, hn => by
  simp only [sumL]
  by_cases e : N = c
  ·
   subst e
   simp only [if_true]
   rw [sumL_same N _ R (fun i hi => by rw [if_neg (by omega)]), List.length_drop]
   omega
  ·
   rw [if_neg e]
   have := sumL_drop N R c n (by omega) hn
   omega
/-- A slice, the bytes of which lie in w. -/
def Sees (w : World) (g : Nat) (v : Value) (l : List UInt8) : Prop :=
 (v = .slice none 0 0 ∧ l = []) ∨ ∃ b o cap, v = .slice (some ⟨b, o, none⟩) l.length cap ∧ l.length ≤ cap ∧ cap ≤ maxLen ∧ b < w.heap.size ∧ b ≠ g ∧ ∀ j (hj : j < l.length), w.cell? ⟨b, o + j, none⟩ = some (.int .u8 (l[j].toNat : Int))
theorem Sees.one {w : World} {g : Nat} {v : Value} {l : List UInt8} (h : Sees w g v l) : v.oneCell' = true := by
 rcases h with ⟨h, _⟩ | ⟨b, o, cap, h, _⟩ <;> rw [h] <;> rfl
theorem sees_own {B : Nat} {w : World} {g : Nat} {v : Value} {l : List UInt8} (h : w.ownsRow B 5 1 v l.length (byteVals l)) (hg : w.heap.size ≤ g) : Sees w g v l := by
 have h0 := h
 obtain ⟨hl, q⟩ := h
 rcases q with ⟨q, q0⟩ | ⟨b, cap, cur, q, hb, hh, hc, hm, hs, ht⟩
 · exact Or.inl ⟨q, List.eq_nil_of_length_eq_zero q0⟩
 ·
  subst q
  have hlt := (h0.lt b rfl).2
  refine Or.inr ⟨b, 0, cap, rfl, hc, hm, hlt, by omega, fun j hj => ?_⟩
  have cc := h0.cells (g := b) rfl j _ (byteVals_get l j hj)
  rw [addr_add0] at cc
  rw [Nat.zero_add, cc, List.getD_eq_getElem?_getD, List.getElem?_eq_getElem hj]
  rfl
theorem Sees.to {w w' : World} {g : Nat} {v : Value} {l : List UInt8} (h : Sees w g v l) (hz : w.heap.size ≤ w'.heap.size) (hb : ∀ b, b < w.heap.size → b ≠ g → w'.heap[b]? = w.heap[b]?) : Sees w' g v l := by
 rcases h with h | ⟨b, o, cap, h1, h2, h3, h4, h5, h6⟩
 · exact Or.inl h
 ·
  refine Or.inr ⟨b, o, cap, h1, h2, h3, by omega, h5, fun j hj => ?_⟩
  have := h6 j hj
  simp only [World.cell?] at this ⊢
  rw [hb b h4 h5]
  exact this
/-- What Cut has done so far. -/
structure CutR (w1 wr : World) (g cap N : Nat) (Q : Nat → List UInt8) (vt : Value) (F : Nat → Value) (l : List UInt8) (P R : Nat → List UInt8) : Prop where
 row : wr.rowIs g 80 cap F
 glt : g < w1.heap.size
 own : wr.ownsRow w1.heap.size 5 1 vt l.length (byteVals l)
 sees : ∀ i, i < N → Sees w1 g (F i) (R i)
 size : w1.heap.size ≤ wr.heap.size
 kept : ∀ b, b < w1.heap.size → b ≠ g → wr.heap[b]? = w1.heap[b]?
 os : wr.os = w1.os
 tape : wr.tape = w1.tape
 output : wr.output = w1.output
 cuts : Cuts N l P
 parts : ∀ i, (i < N → P i ++ R i = Q i) ∧ (N ≤ i → P i = [])
 len : l.length + 3 * sumL N R ≤ 3 * sumL N Q
/-- A frame is laid: the head, then the bytes, then what is left is laid back. -/
theorem CutR.step {w1 wr w2 w3 : World} {g cap N : Nat} {Q : Nat → List UInt8} {vt v2 v3 : Value} {F : Nat → Value} {l : List UInt8} {P R : Nat → List UInt8} {ob : Obj} (h : CutR w1 wr g cap N Q vt F l P R) (c n : Nat) (hc : c < N) (hN : N ≤ 8) (hcap : N ≤ cap) (hn1 : 1 ≤ n) (hn : n ≤ (R c).length) (h20 : n ≤ 20) (vs : Value) (hvs : Sees w1 g vs ((R c).drop n))
 (o3 : w3.ownsRow w1.heap.size 5 1 v3 (l.length + 2 + n) (byteVals (l ++ [UInt8.ofNat c, UInt8.ofNat n] ++ (R c).take n)))
 (g2 : (wr.alloc ob).grownBy w2 vt.ownBlock) (g3 : w2.grownBy w3 v2.ownBlock) (b2 : ∀ b, v2.ownBlock = some b → w1.heap.size ≤ b) (b1 : ∀ b, vt.ownBlock = some b → w1.heap.size ≤ b) :
 w3.cell? ⟨g, c, none⟩ = some (F c) ∧ w3.frozen? ⟨g, c, none⟩ = false ∧ ∃ P', CutR w1 (w3.setCell ⟨g, c, none⟩ vs) g cap N Q v3 (upd1 F c vs) (l ++ [UInt8.ofNat c, UInt8.ofNat n] ++ (R c).take n) P' (fun i => if i = c then (R c).drop n else R i) := by
 have hglt := h.glt
 have hsz := h.size
 have a1 : (wr.alloc ob).heap.size = wr.heap.size + 1 := by simp
 have s2 := g2.size
 have s3 := g3.size
 have keep : ∀ b, b < w1.heap.size → w3.heap[b]? = wr.heap[b]? := fun b hb => by
  refine (g3.block b (by omega) (fun e => ?_)).trans ((g2.block b (by omega) (fun e => ?_)).trans (Below.heap_alloc wr ob b (by omega)))
  · have := b2 b e.symm; omega
  · have := b1 b e.symm; omega
 have hr3 := h.row.of_block (keep g hglt)
 have hlx : ((R c).take n).length = n := by rw [List.length_take]; omega
 have hll : (l ++ [UInt8.ofNat c, UInt8.ofNat n] ++ (R c).take n).length = l.length + 2 + n := by rw [List.length_append, List.length_append, hlx]; rfl
 have hz : (w3.setCell ⟨g, c, none⟩ vs).heap.size = w3.heap.size := by simp [World.setCell]
 have hcf := h.cuts.frame c ((R c).take n) hc hN (by omega) (by omega)
 rw [hlx] at hcf
 refine ⟨hr3.cell (by omega), hr3.frozen c, _, ⟨(hr3.set c vs).congr (fun i _ => rfl), hglt, ?_, fun i hi => ?_, by omega, fun b hb hx => ?_, ?_, ?_, ?_, hcf, fun i => ⟨fun hi => ?_, fun hi => ?_⟩, ?_⟩⟩
 ·
  rw [hll]
  exact ownsRow_frame o3 (fun b e => Below.heap_setCell _ _ _ _ (fun e2 => by have := (o3.lt b e).1; have e3 : b = g := e2; omega))
 ·
  by_cases e : i = c
  · subst e; rw [upd1_eq]; simp only [if_true]; exact hvs
  · rw [upd1_ne e]; simp only [if_neg e]; exact h.sees i hi
 · rw [Below.heap_setCell _ _ _ _ hx, keep b hb]; exact h.kept b hb hx
 · exact g3.os.trans (g2.os.trans h.os)
 · exact g3.tape.trans (g2.tape.trans h.tape)
 · exact g3.output.trans (g2.output.trans h.output)
 ·
  by_cases e : i = c
  ·
   subst e
   simp only [if_true]
   rw [List.append_assoc, List.take_append_drop]
   exact (h.parts i).1 hi
  ·
   simp only [if_neg e]
   exact (h.parts i).1 hi
 ·
  rw [if_neg (by omega)]
  exact (h.parts i).2 hi
 ·
  have hs := sumL_drop N R c n hc hn
  have hl := h.len
  rw [hll]
  omega
/- The text of the frames of what waits, plainly. -/
/-- A channel's next frame, if bytes wait there. -/
def frameL (c : Nat) (x : List UInt8) : List UInt8 := if x.length = 0 then [] else [UInt8.ofNat c, UInt8.ofNat (min x.length 20)] ++ x.take (min x.length 20)
/-- The frames of a round, of the channels from k on. -/
def roundL (R : Nat → List UInt8) : Nat → Nat → List UInt8
 | _, 0 => []
 | k, r + 1 => frameL k (R k) ++ roundL R (k + 1) r
def dropF (k : Nat) (R : Nat → List UInt8) : Nat → List UInt8 := fun c => if k ≤ c then (R c).drop 20 else R c
def cutT (N : Nat) : Nat → (Nat → List UInt8) → List UInt8
 | 0, _ => []
 | f + 1, R => roundL R 0 N ++ cutT N f (dropF 0 R)
/-- All frames. -/
def cutG (N : Nat) (R : Nat → List UInt8) : List UInt8 := cutT N (sumL N R) R
theorem roundL_same {R R' : Nat → List UInt8} : ∀ (r k : Nat), (∀ c, k ≤ c → c < k + r → R c = R' c) → roundL R k r = roundL R' k r
 | 0, _, _ => rfl
 |
  r + 1, k, h => by
  simp only [roundL]
  rw [h k (Nat.le_refl _) (by omega), roundL_same r (k + 1) (fun c h1 h2 => h c (by omega) (by omega))]
theorem roundL_none {R : Nat → List UInt8} : ∀ (r k : Nat), (∀ c, k ≤ c → c < k + r → R c = []) → roundL R k r = []
 | 0, _, _ => rfl
 |
  r + 1, k, h => by
  simp only [roundL]
  rw [h k (Nat.le_refl _) (by omega), roundL_none r (k + 1) (fun c h1 h2 => h c (by omega) (by omega))]
  rfl
theorem cutT_same {N : Nat} : ∀ (f : Nat) {R R' : Nat → List UInt8}, (∀ c, c < N → R c = R' c) → cutT N f R = cutT N f R'
 | 0, _, _, _ => rfl
 |
  f + 1, R, R', h => by
  simp only [cutT]
  rw [roundL_same N 0 (fun c _ h2 => h c (by omega)), cutT_same f (R := dropF 0 R) (R' := dropF 0 R') (fun c hc => by unfold dropF; rw [h c hc])]
theorem cutT_none {N : Nat} : ∀ (f : Nat) {R : Nat → List UInt8}, (∀ c, c < N → R c = []) → cutT N f R = []
 | 0, _, _ => rfl
 |
  f + 1, R, h => by
  simp only [cutT]
  rw [roundL_none N 0 (fun c _ h2 => h c (by omega)), cutT_none f (R := dropF 0 R) (fun c hc => by unfold dropF; rw [h c hc, if_pos (Nat.zero_le _)]; rfl)]
  rfl
theorem sumL_nonil : ∀ (N : Nat) (R : Nat → List UInt8), sumL N R = 0 → ∀ c, c < N → R c = []
 |
  N + 1, R, h, c, hc => by
  simp only [sumL] at h
  by_cases e : c = N
  · subst e; exact List.eq_nil_of_length_eq_zero (by omega)
  · exact sumL_nonil N R (by omega) c (by omega)
theorem sumL_dropF (N : Nat) (R : Nat → List UInt8) : sumL N (dropF 0 R) ≤ sumL N R ∧ (0 < sumL N R → sumL N (dropF 0 R) < sumL N R) := by
 induction N with
 | zero => exact ⟨Nat.le_refl _, fun h => by simp [sumL] at h⟩
 |
  succ N ih =>
  simp only [sumL]
  have e : (dropF 0 R N).length = (R N).length - 20 := by unfold dropF; rw [if_pos (Nat.zero_le _), List.length_drop]
  rw [e]
  refine ⟨by omega, fun h => ?_⟩
  by_cases q : 0 < sumL N R
  · have := ih.2 q; omega
  · have := ih.1; omega
theorem cutT_fuel {N : Nat} : ∀ (f g : Nat) {R : Nat → List UInt8}, sumL N R ≤ f → sumL N R ≤ g → cutT N f R = cutT N g R
 |
  0, g, R, hf, _ => by
  have h := sumL_nonil N R (by omega)
  rw [cutT_none g h]
  rfl
 |
  f + 1, 0, R, _, hg => by
  have h := sumL_nonil N R (by omega)
  rw [cutT_none (f + 1) h]
  rfl
 |
  f + 1, g + 1, R, hf, hg => by
  simp only [cutT]
  have hd := sumL_dropF N R
  by_cases q : 0 < sumL N R
  ·
   have := hd.2 q
   rw [cutT_fuel f g (by omega) (by omega)]
  · rw [cutT_fuel f g (by omega) (by omega)]
theorem cutG_round (N : Nat) (R : Nat → List UInt8) : cutG N R = roundL R 0 N ++ cutG N (dropF 0 R) := by
 unfold cutG
 have hd := sumL_dropF N R
 rw [cutT_fuel (sumL N R) (sumL N R + 1) (Nat.le_refl _) (by omega)]
 simp only [cutT]
 rw [cutT_fuel (sumL N R) (sumL N (dropF 0 R)) hd.1 (Nat.le_refl _)]
theorem cutG_same {N : Nat} {R R' : Nat → List UInt8} (h : ∀ c, c < N → R c = R' c) : cutG N R = cutG N R' := by
 unfold cutG
 rw [sumL_same N R R' h, cutT_same _ h]
theorem cutG_none {N : Nat} {R : Nat → List UInt8} (h : ∀ c, c < N → R c = []) : cutG N R = [] := by
 unfold cutG
 exact cutT_none _ h
/-- What is still to be laid, the round being at channel k. -/
def restG (N k : Nat) (R : Nat → List UInt8) : List UInt8 := roundL R k (N - k) ++ cutG N (dropF k R)
theorem restG_zero (N : Nat) (R : Nat → List UInt8) : restG N 0 R = cutG N R := by
 unfold restG
 rw [Nat.sub_zero, ← cutG_round]
theorem restG_end (N : Nat) (R : Nat → List UInt8) : restG N N R = cutG N R := by
 unfold restG
 rw [Nat.sub_self]
 show [] ++ cutG N (dropF N R) = _
 rw [List.nil_append]
 exact cutG_same (fun c hc => by unfold dropF; rw [if_neg (by omega)])
theorem restG_skip {N k : Nat} {R : Nat → List UInt8} (hk : k < N) (h : R k = []) : restG N k R = restG N (k + 1) R := by
 unfold restG
 rw [show N - k = (N - (k + 1)) + 1 by omega]
 simp only [roundL]
 have e : frameL k (R k) = [] := by rw [h]; rfl
 rw [e, List.nil_append]
 congr 1
 exact cutG_same (fun c _ => by
  unfold dropF
  by_cases q : c = k
  · subst q; rw [if_pos (Nat.le_refl _), if_neg (by omega), h]; rfl
  ·
   by_cases q2 : k ≤ c
   · rw [if_pos q2, if_pos (by omega)]
   · rw [if_neg q2, if_neg (by omega)])
theorem restG_step {N k n : Nat} {R : Nat → List UInt8} (hk : k < N) (hn : n = min (R k).length 20) (h1 : 1 ≤ (R k).length) : restG N k R = [UInt8.ofNat k, UInt8.ofNat n] ++ (R k).take n ++ restG N (k + 1) (fun i => if i = k then (R k).drop n else R i) := by
 unfold restG
 rw [show N - k = (N - (k + 1)) + 1 by omega]
 simp only [roundL]
 have e : frameL k (R k) = [UInt8.ofNat k, UInt8.ofNat n] ++ (R k).take n := by
  unfold frameL
  rw [if_neg (by omega), ← hn]
 rw [e, List.append_assoc ([UInt8.ofNat k, UInt8.ofNat n] ++ (R k).take n)]
 congr 1
 rw [roundL_same (N - (k + 1)) (k + 1) (R' := fun i => if i = k then (R k).drop n else R i) (fun c h1 _ => by rw [if_neg (by omega)])]
 congr 1
 exact cutG_same (fun c _ => by
  unfold dropF
  by_cases q : c = k
  ·
   subst q
   rw [if_pos (Nat.le_refl _), if_neg (by omega)]
   simp only [if_true]
   rcases Nat.le_total (R c).length 20 with q2 | q2
   · rw [List.drop_of_length_le q2, List.drop_of_length_le (by omega)]
   · rw [show n = 20 by omega]
  ·
   simp only [if_neg q]
   by_cases q2 : k ≤ c
   · rw [if_pos q2, if_pos (by omega)]
   · rw [if_neg q2, if_neg (by omega)])
/-- The frames of what waits: what they bring, and which they are. -/
def CutsE (N : Nat) (l : List UInt8) (Q : Nat → List UInt8) : Prop := Cuts N l (fun c => if c < N then Q c else []) ∧ l = cutG N Q
/- frames.Cut, the walk. -/
/-- A round of Cut up to channel k: 'more' tells whether a frame was laid. -/
def CutI (w1 : World) (g cap N : Nat) (Q : Nat → List UInt8) (s0 k : Nat) (more : Bool) (vt : Value) (wr : World) : Prop :=
 ∃ F l P R, CutR w1 wr g cap N Q vt F l P R ∧ (more = false → sumL N R = s0 ∧ ∀ i, i < k → i < N → R i = []) ∧ (more = true → sumL N R < s0) ∧ l ++ restG N k R = cutG N Q
/-- Between rounds. -/
def CutO (w1 : World) (g cap N : Nat) (Q : Nat → List UInt8) (s0 : Nat) (more : Bool) (vt : Value) (wr : World) : Prop :=
 ∃ F l P R, CutR w1 wr g cap N Q vt F l P R ∧ sumL N R = s0 ∧ (more = false → ∀ i, i < N → R i = []) ∧ l ++ cutG N R = cutG N Q
set_option maxRecDepth 4000 in
set_option maxHeartbeats 800000 in
theorem fcut_any (B gw N : Nat) (fq : Nat → Value) (Q : Nat → List UInt8) (w : World) (h : w.rowIs gw 80 N fq) (h1 : 1 ≤ N) (hN : N ≤ 8) (hown : ∀ c, c < N → w.ownsRow B 5 1 (fq c) (Q c).length (byteVals (Q c))) (hq : sumL N Q ≤ 1600) :
 Calls Tryz.prog 60 #[.slice (some ⟨gw, 0, none⟩) N N] w fun e w' => ∃ S : ByteArray, e = .returned (.string S) ∧ CutsE N S.data.toList Q ∧ S.size ≤ 3 * sumL N Q ∧ Below w.heap.size w w' := by
 have hone : ∀ i, i < N → (fq i).oneCell' = true := fun i hi => by
  obtain ⟨_, q⟩ := hown i hi
  rcases q with ⟨q, _⟩ | ⟨g, cap, cur, q, _⟩ <;> rw [q] <;> rfl
 go_enter Tryz.func60, Tryz.ntmps60
 go_wp2_with fail
 refine (rows_clone gw N fq w h h1 hN hone).mono ?_
 rintro e w1 ⟨g, cap, F, rfl, hg, hF, hFq, hcap, hcm, hbel⟩
 have H0 : CutO w1 g cap N Q (sumL N Q) true (.slice none 0 0) w1 := ⟨F, [], fun _ => [], Q, ⟨hF, hF.lt, World.ownsRow_nil _ _ _ _, fun i hi => by
  rw [hFq i hi]
  exact (sees_own (hown i hi) hg).to hbel.size (fun b hb _ => hbel.block b hb), Nat.le_refl _, fun _ _ _ => rfl, rfl, rfl, rfl, cuts_nil N, fun i => ⟨fun _ => rfl, fun _ => rfl⟩, by simp⟩, rfl, fun q => by simp at q, rfl⟩
 have HEN : Hid (∀ vt wr s0, CutO w1 g cap N Q s0 false vt wr → ∃ S : ByteArray, (convert 80 9 vt).run Tryz.prog wr = .ok (.string S) wr ∧ CutsE N S.data.toList Q ∧ S.size ≤ 3 * sumL N Q ∧ Below w.heap.size w wr) := fun vt wr s0 hO => by
  obtain ⟨F2, l, P, R, hR, _, hz, hfin⟩ := hO
  have hz' := hz rfl
  have hPQ : P = fun c => if c < N then Q c else [] := by
   funext c
   by_cases q : c < N
   ·
    rw [if_pos q]
    have := (hR.parts c).1 q
    rw [hz' c q, List.append_nil] at this
    exact this
   · rw [if_neg q]; exact (hR.parts c).2 (by omega)
  refine ⟨⟨l.toArray⟩, ?_, ?_, ?_, ?_⟩
  ·
   obtain ⟨_, q⟩ := hR.own
   rcases q with ⟨q, q0⟩ | ⟨b, cp, cur, q, _⟩
   ·
    have e : l = [] := List.eq_nil_of_length_eq_zero q0
    rw [q, e]
    exact Go.Lib.run_convert_nil_bytes (P := Tryz.prog) wr 80 9 5 0 Tryz.underlying80 Tryz.underlying5 Tryz.underlying9
   ·
    have ho := hR.own
    rw [q] at ho ⊢
    have := conv_mid (c := cp) 0 l.length ho rfl (by omega)
    rw [List.drop_zero, List.take_length] at this
    exact this
  ·
   refine ⟨by rw [toList_txt, ← hPQ]; exact hR.cuts, ?_⟩
   rw [toList_txt, ← hfin, cutG_none hz', List.append_nil]
  · rw [size_txt]; have := hR.len; omega
  · refine hbel.trans ⟨hR.os, hR.tape, hR.output, hR.size, fun b hb => hR.kept b (by have := hbel.size; omega) (by omega)⟩
 clear hown hone h hFq hF hbel
 go_wp2_with fail
 go_loopg [3, 4] (sumL N Q + 2) (fun fu vt mo wr => ∃ s0 more, mo = .bool more ∧ CutO w1 g cap N Q s0 more vt wr ∧ (more = true → s0 + 2 ≤ fu))
 case atStart => exact ⟨_, true, rfl, H0, fun _ => Nat.le_refl _⟩
 case round =>
  obtain ⟨s0, more, rfl, hO, hfu⟩ := hrel
  cases more with
  |
   false =>
   obtain ⟨S, hcv, r⟩ := HEN.out _ _ _ hO
   clear HEN H0 hO hfu
   go_wp2
   go_ret
   exact ⟨S, rfl, r⟩
  |
   true =>
   have hfu' := hfu rfl
   obtain ⟨F0, l0, P0, R0, hR0, hsum, _, hfin⟩ := hO
   have HI : CutI w1 g cap N Q s0 0 false _ _ := ⟨F0, l0, P0, R0, hR0, fun _ => ⟨hsum, fun i hi => by omega⟩, fun q => by simp at q, by rw [restG_zero]; exact hfin⟩
   clear hR0 hsum hfu H0 hfin
   go_wp2_with fail
   go_loopw [3, 4, 13] (fun vt mo i wr => ∃ k more, k ≤ N ∧ i = .int .i64 (k : Nat) ∧ mo = .bool more ∧ CutI w1 g cap N Q s0 k more vt wr) (fun _ _ i _ => N - (intOf i).toNat)
   case atStart => exact ⟨0, false, Nat.zero_le _, rfl, rfl, HI⟩
   case round =>
    obtain ⟨k, more, hk, rfl, rfl, hI⟩ := hrel
    by_cases hlt : k < N
    ·
     obtain ⟨F, l, P, R, hR, hf, ht, hfin⟩ := hI
     have c0 := hR.row.cell (i := k) (by omega)
     have hse := hR.sees k hlt
     have hltI : (k : Int) < (N : Int) := by omega
     by_cases hRk : R k = []
     ·
      obtain ⟨ao, cp, hv⟩ : ∃ ao cp, F k = .slice ao 0 cp := by
       rcases hse with ⟨e, _⟩ | ⟨b, o, cp, e, _⟩
       · exact ⟨none, 0, e⟩
       · rw [hRk] at e; exact ⟨_, _, e⟩
      rw [hv] at c0
      have HN : CutI w1 g cap N Q s0 (k + 1) more _ _ := ⟨F, l, P, R, hR, fun q => ⟨(hf q).1, fun i hi hiN => by
       by_cases e : i = k
       · rw [e]; exact hRk
       · exact (hf q).2 i (by omega) hiN⟩, ht, by rw [← restG_skip hlt hRk]; exact hfin⟩
      clear hfin hR hf ht hse hv HEN HI
      go_wp2
      go_roundw
      case rel => exact ⟨k + 1, more, by omega, by go_num, rfl, HN⟩
      case measure => simp [intOf]; omega
     ·
      obtain ⟨b, o, cp, hv, hcp, hcm2, hb, hbg, hcl⟩ : ∃ b o cp, F k = .slice (some ⟨b, o, none⟩) (R k).length cp ∧ (R k).length ≤ cp ∧ cp ≤ maxLen ∧ b < w1.heap.size ∧ b ≠ g ∧ ∀ j (hj : j < (R k).length), w1.cell? ⟨b, o + j, none⟩ = some (.int .u8 ((R k)[j].toNat : Int)) := by
       rcases hse with ⟨_, e⟩ | q
       · exact absurd e hRk
       · exact q
      rw [hv] at c0
      have hL1 : 1 ≤ (R k).length := by
       rcases Nat.eq_zero_or_pos (R k).length with e | e
       · exact absurd (List.eq_nil_of_length_eq_zero e) hRk
       · exact e
      have hown := hR.own
      have hlen := hR.len
      have hsz := hR.size
      have hll : l.length ≤ 4800 := by omega
      obtain ⟨i0, hi0, hz0, hs0, hby⟩ := info_parts Tryz.info5
      have c0' := c0
      have HV : Hid (F k = .slice (some ⟨b, o, none⟩) (R k).length cp) := hv
      clear hv
      by_cases h20 : 20 < (R k).length
      ·
       have hn20 : 20 ≤ 20 := by omega
       have hnL : 20 ≤ (R k).length := by omega
       have hn1 : 1 ≤ 20 := by omega
       have hnews1 : ∀ j u, ([.int .u8 (k : Int), .int .u8 (20)] : List Value)[j]? = some u → (wr.alloc (.cells #[.int .u8 (k : Int), .int .u8 (20)] 5)).cell? ((⟨wr.heap.size, 0, none⟩ : Addr).add j) = some u := fun j u hu => by
        have hb2 := heap_alloc_last wr (.cells #[.int .u8 (k : Int), .int .u8 (20)] 5)
        rw [addr_add0, cell_of_row _ _ _ _ _ _ hb2]
        rw [← hu]; simp
       have HEX : Hid (byteVals l ++ [.int .u8 (k : Int), .int .u8 (20)] = byteVals (l ++ [UInt8.ofNat k, UInt8.ofNat 20])) := by
        show _ = _
        have ek : (UInt8.ofNat k).toNat = k := by first | rfl | (rw [UInt8.toNat_ofNat']; omega)
        unfold byteVals
        rw [List.map_append]
        simp [ek]
       clear hse HEN HI c0' hRk
       go_wp2_with (first | (at_builtin; refine wpList_append_own _ rfl (.tmp 24) (.tmp 29) 80 rfl w1.heap.size 5 i0 (.int .u8 0) 1 1 Tryz.underlying80 hi0 hz0 hs0 hby rfl (by omega) u3 l.length (byteVals l) rfl (hown.alloc _) ⟨wr.heap.size, 0, none⟩ 2 2 [.int .u8 (k : Int), .int .u8 (20)] rfl rfl hnews1 (by simp [Value.oneCell']) (by unfold maxLen; omega) (by omega) (by simp; omega) ?_) | fail)
       intro v2 w2 o2 g2 _
       have b1 : ∀ b', u3.ownBlock = some b' → w1.heap.size ≤ b' := fun b' e => (hown.lt b' e).1
       have b2 : ∀ b', v2.ownBlock = some b' → w1.heap.size ≤ b' := fun b' e => (o2.lt b' e).1
       have az : (wr.alloc (.cells #[.int .u8 (k : Int), .int .u8 (20)] 5)).heap.size = wr.heap.size + 1 := by simp
       have s2 := g2.size
       have kb : w2.heap[b]? = w1.heap[b]? := (g2.block b (by omega) (fun e => by have := b1 b e.symm; omega)).trans ((Below.heap_alloc wr _ b (by omega)).trans (hR.kept b hb hbg))
       have hnews2 : ∀ j u, (byteVals ((R k).take 20))[j]? = some u → w2.cell? ((⟨b, o, none⟩ : Addr).add j) = some u := fun j u hu => by
        have hj : j < ((R k).take 20).length := by have := (List.getElem?_eq_some_iff.1 hu).1; rw [byteVals, List.length_map] at this; exact this
        have hj2 : j < (R k).length := by rw [List.length_take] at hj; omega
        rw [byteVals, List.getElem?_map, List.getElem?_eq_getElem hj, List.getElem_take] at hu
        rw [Addr.add_mid, ← Option.some.inj hu]
        have cc := hcl j hj2
        simp only [World.cell?] at cc ⊢
        rw [kb]; exact cc
       have hl2 : (byteVals ((R k).take 20)).length = 20 * 1 := by rw [byteVals, List.length_map, List.length_take]; omega
       have hon2 : ∀ u ∈ byteVals ((R k).take 20), u.oneCell' = true := fun u hu => by
        rw [byteVals, List.mem_map] at hu
        obtain ⟨c, _, rfl⟩ := hu
        rfl
       have hB2 : w1.heap.size ≤ w2.heap.size := by omega
       have HST : Hid (∀ v3 w3 vs, w3.ownsRow w1.heap.size 5 1 v3 (l.length + 2 + 20) (byteVals l ++ [.int .u8 (k : Int), .int .u8 (20)] ++ byteVals ((R k).take 20)) → w2.grownBy w3 v2.ownBlock → Sees w1 g vs ((R k).drop 20) → w3.cell? ⟨g, k, none⟩ = some (.slice (some ⟨b, o, none⟩) (R k).length cp) ∧ w3.frozen? ⟨g, k, none⟩ = false ∧ CutI w1 g cap N Q s0 (k + 1) true v3 (w3.setCell ⟨g, k, none⟩ vs)) := fun v3 w3 vs o3 g3 hvs => by
        have o3' : w3.ownsRow w1.heap.size 5 1 v3 (l.length + 2 + 20) (byteVals (l ++ [UInt8.ofNat k, UInt8.ofNat 20] ++ (R k).take 20)) := by
         have e : byteVals (l ++ [UInt8.ofNat k, UInt8.ofNat 20] ++ (R k).take 20) = byteVals (l ++ [UInt8.ofNat k, UInt8.ofNat 20]) ++ byteVals ((R k).take 20) := by unfold byteVals; rw [List.map_append]
         rw [e, ← HEX.out]; exact o3
        obtain ⟨x0, x1, P', hR'⟩ := hR.step k 20 hlt hN hcap hn1 hnL hn20 vs hvs o3' g2 g3 b2 b1
        refine ⟨by rw [x0, HV.out], x1, ⟨_, _, P', _, hR', fun q => by simp at q, fun _ => ?_, by rw [← hfin, restG_step (n := 20) hlt (by omega) hL1]; simp only [List.append_assoc]⟩⟩
        have hd := sumL_drop N R k 20 hlt hnL
        cases more with
        | false => have := (hf rfl).1; omega
        | true => have := ht rfl; omega
       have HSE : Hid (∀ ax cx, (cp = 20 → ax = some ⟨b, o, none⟩) → (¬ cp = 20 → ax = some ⟨b, o + 20, none⟩) → cx = cp - 20 → Sees w1 g (.slice ax ((R k).length - 20) cx) ((R k).drop 20)) := fun ax cx h1 h2 h3 => by
        by_cases q : cp = 20
        ·
         have e : (R k).drop 20 = [] := List.drop_of_length_le (by omega)
         have e2 : (R k).length - 20 = 0 := by omega
         rw [h1 q, e, e2, h3]
         exact Or.inr ⟨b, o, _, rfl, Nat.zero_le _, by omega, hb, hbg, fun j hj => by simp at hj⟩
        ·
         rw [h2 q, h3]
         refine Or.inr ⟨b, o + 20, _, by rw [List.length_drop], by rw [List.length_drop]; omega, by omega, hb, hbg, fun j hj => ?_⟩
         have hj2 : 20 + j < (R k).length := by rw [List.length_drop] at hj; omega
         have cc := hcl (20 + j) hj2
         rw [List.getElem_drop, Nat.add_assoc]
         exact cc
       clear hfin HEX hnews1 kb az g2 hR hf ht b1 b2 hcl hown c0 hlen
       go_wp2_with (first | (at_builtin; refine wpList_append_own _ rfl (.tmp 31) (.tmp 34) 80 rfl w1.heap.size 5 i0 (.int .u8 0) 1 1 Tryz.underlying80 hi0 hz0 hs0 hby rfl (by omega) v2 (l.length + 2) (byteVals l ++ [.int .u8 (k : Int), .int .u8 (20)]) rfl o2 ⟨b, o, none⟩ 20 cp (byteVals ((R k).take 20)) rfl hl2 hnews2 hon2 (by unfold maxLen; omega) (by omega) hB2 ?_) | fail)
       intro v3 w3 o3 g3 _
       by_cases hcn : cp = 20
       · exact absurd hcn (by omega)
       ·
        obtain ⟨x0, x1, HN⟩ := HST.out v3 w3 _ (by first | exact o3 | simpa using o3) g3 (HSE.out (some ⟨b, o + 20, none⟩) (cp - 20) (fun q => absurd q hcn) (fun _ => rfl) rfl)
        clear HST HSE o3 g3 o2 hnews2 hon2 hl2
        go_wp2
        go_roundw
        case rel => exact ⟨k + 1, true, by omega, by go_num, rfl, HN⟩
        case measure => simp [intOf]; omega
      ·
       have hn20 : (R k).length ≤ 20 := by omega
       have hnL : (R k).length ≤ (R k).length := by omega
       have hn1 : 1 ≤ (R k).length := by omega
       have hnews1 : ∀ j u, ([.int .u8 (k : Int), .int .u8 (((R k).length : Nat))] : List Value)[j]? = some u → (wr.alloc (.cells #[.int .u8 (k : Int), .int .u8 (((R k).length : Nat))] 5)).cell? ((⟨wr.heap.size, 0, none⟩ : Addr).add j) = some u := fun j u hu => by
        have hb2 := heap_alloc_last wr (.cells #[.int .u8 (k : Int), .int .u8 (((R k).length : Nat))] 5)
        rw [addr_add0, cell_of_row _ _ _ _ _ _ hb2]
        rw [← hu]; simp
       have HEX : Hid (byteVals l ++ [.int .u8 (k : Int), .int .u8 (((R k).length : Nat))] = byteVals (l ++ [UInt8.ofNat k, UInt8.ofNat (R k).length])) := by
        show _ = _
        have ek : (UInt8.ofNat k).toNat = k := by first | rfl | (rw [UInt8.toNat_ofNat']; omega)
        have en : (UInt8.ofNat (R k).length).toNat = (R k).length := by first | rfl | (rw [UInt8.toNat_ofNat']; omega)
        unfold byteVals
        rw [List.map_append]
        simp [ek, en]
       clear hse HEN HI c0' hRk
       go_wp2_with (first | (at_builtin; refine wpList_append_own _ rfl (.tmp 24) (.tmp 29) 80 rfl w1.heap.size 5 i0 (.int .u8 0) 1 1 Tryz.underlying80 hi0 hz0 hs0 hby rfl (by omega) u3 l.length (byteVals l) rfl (hown.alloc _) ⟨wr.heap.size, 0, none⟩ 2 2 [.int .u8 (k : Int), .int .u8 (((R k).length : Nat))] rfl rfl hnews1 (by simp [Value.oneCell']) (by unfold maxLen; omega) (by omega) (by simp; omega) ?_) | fail)
       intro v2 w2 o2 g2 _
       have b1 : ∀ b', u3.ownBlock = some b' → w1.heap.size ≤ b' := fun b' e => (hown.lt b' e).1
       have b2 : ∀ b', v2.ownBlock = some b' → w1.heap.size ≤ b' := fun b' e => (o2.lt b' e).1
       have az : (wr.alloc (.cells #[.int .u8 (k : Int), .int .u8 (((R k).length : Nat))] 5)).heap.size = wr.heap.size + 1 := by simp
       have s2 := g2.size
       have kb : w2.heap[b]? = w1.heap[b]? := (g2.block b (by omega) (fun e => by have := b1 b e.symm; omega)).trans ((Below.heap_alloc wr _ b (by omega)).trans (hR.kept b hb hbg))
       have hnews2 : ∀ j u, (byteVals ((R k).take (R k).length))[j]? = some u → w2.cell? ((⟨b, o, none⟩ : Addr).add j) = some u := fun j u hu => by
        have hj : j < ((R k).take (R k).length).length := by have := (List.getElem?_eq_some_iff.1 hu).1; rw [byteVals, List.length_map] at this; exact this
        have hj2 : j < (R k).length := by rw [List.length_take] at hj; omega
        rw [byteVals, List.getElem?_map, List.getElem?_eq_getElem hj, List.getElem_take] at hu
        rw [Addr.add_mid, ← Option.some.inj hu]
        have cc := hcl j hj2
        simp only [World.cell?] at cc ⊢
        rw [kb]; exact cc
       have hl2 : (byteVals ((R k).take (R k).length)).length = (R k).length * 1 := by rw [byteVals, List.length_map, List.length_take]; omega
       have hon2 : ∀ u ∈ byteVals ((R k).take (R k).length), u.oneCell' = true := fun u hu => by
        rw [byteVals, List.mem_map] at hu
        obtain ⟨c, _, rfl⟩ := hu
        rfl
       have hB2 : w1.heap.size ≤ w2.heap.size := by omega
       have HST : Hid (∀ v3 w3 vs, w3.ownsRow w1.heap.size 5 1 v3 (l.length + 2 + (R k).length) (byteVals l ++ [.int .u8 (k : Int), .int .u8 (((R k).length : Nat))] ++ byteVals ((R k).take (R k).length)) → w2.grownBy w3 v2.ownBlock → Sees w1 g vs ((R k).drop (R k).length) → w3.cell? ⟨g, k, none⟩ = some (.slice (some ⟨b, o, none⟩) (R k).length cp) ∧ w3.frozen? ⟨g, k, none⟩ = false ∧ CutI w1 g cap N Q s0 (k + 1) true v3 (w3.setCell ⟨g, k, none⟩ vs)) := fun v3 w3 vs o3 g3 hvs => by
        have o3' : w3.ownsRow w1.heap.size 5 1 v3 (l.length + 2 + (R k).length) (byteVals (l ++ [UInt8.ofNat k, UInt8.ofNat (R k).length] ++ (R k).take (R k).length)) := by
         have e : byteVals (l ++ [UInt8.ofNat k, UInt8.ofNat (R k).length] ++ (R k).take (R k).length) = byteVals (l ++ [UInt8.ofNat k, UInt8.ofNat (R k).length]) ++ byteVals ((R k).take (R k).length) := by unfold byteVals; rw [List.map_append]
         rw [e, ← HEX.out]; exact o3
        obtain ⟨x0, x1, P', hR'⟩ := hR.step k (R k).length hlt hN hcap hn1 hnL hn20 vs hvs o3' g2 g3 b2 b1
        refine ⟨by rw [x0, HV.out], x1, ⟨_, _, P', _, hR', fun q => by simp at q, fun _ => ?_, by rw [← hfin, restG_step (n := (R k).length) hlt (by omega) hL1]; simp only [List.append_assoc]⟩⟩
        have hd := sumL_drop N R k (R k).length hlt hnL
        cases more with
        | false => have := (hf rfl).1; omega
        | true => have := ht rfl; omega
       have HSE : Hid (∀ ax cx, (cp = (R k).length → ax = some ⟨b, o, none⟩) → (¬ cp = (R k).length → ax = some ⟨b, o + (R k).length, none⟩) → cx = cp - (R k).length → Sees w1 g (.slice ax ((R k).length - (R k).length) cx) ((R k).drop (R k).length)) := fun ax cx h1 h2 h3 => by
        by_cases q : cp = (R k).length
        ·
         have e : (R k).drop (R k).length = [] := List.drop_of_length_le (by omega)
         have e2 : (R k).length - (R k).length = 0 := by omega
         rw [h1 q, e, e2, h3]
         exact Or.inr ⟨b, o, _, rfl, Nat.zero_le _, by omega, hb, hbg, fun j hj => by simp at hj⟩
        ·
         rw [h2 q, h3]
         refine Or.inr ⟨b, o + (R k).length, _, by rw [List.length_drop], by rw [List.length_drop]; omega, by omega, hb, hbg, fun j hj => ?_⟩
         have hj2 : (R k).length + j < (R k).length := by rw [List.length_drop] at hj; omega
         have cc := hcl ((R k).length + j) hj2
         rw [List.getElem_drop, Nat.add_assoc]
         exact cc
       clear hfin HEX hnews1 kb az g2 hR hf ht b1 b2 hcl hown c0 hlen
       go_wp2_with (first | (at_builtin; refine wpList_append_own _ rfl (.tmp 31) (.tmp 34) 80 rfl w1.heap.size 5 i0 (.int .u8 0) 1 1 Tryz.underlying80 hi0 hz0 hs0 hby rfl (by omega) v2 (l.length + 2) (byteVals l ++ [.int .u8 (k : Int), .int .u8 (((R k).length : Nat))]) rfl o2 ⟨b, o, none⟩ (R k).length cp (byteVals ((R k).take (R k).length)) rfl hl2 hnews2 hon2 (by unfold maxLen; omega) (by omega) hB2 ?_) | fail)
       intro v3 w3 o3 g3 _
       by_cases hcn : cp = (R k).length
       ·
        obtain ⟨x0, x1, HN⟩ := HST.out v3 w3 _ (by first | exact o3 | simpa using o3) g3 (HSE.out (some ⟨b, o, none⟩) (cp - (R k).length) (fun _ => rfl) (fun q => absurd hcn q) rfl)
        have hcz : cp - (R k).length = 0 := by omega
        rw [Nat.sub_self, hcz] at HN
        clear hcz
        clear HST HSE o3 g3 o2 hnews2 hon2 hl2
        go_wp2
        go_roundw
        case rel => exact ⟨k + 1, true, by omega, by go_num, rfl, HN⟩
        case measure => simp [intOf]; omega
       ·
        obtain ⟨x0, x1, HN⟩ := HST.out v3 w3 _ (by first | exact o3 | simpa using o3) g3 (HSE.out (some ⟨b, o + (R k).length, none⟩) (cp - (R k).length) (fun q => absurd q hcn) (fun _ => rfl) rfl)
        rw [Nat.sub_self] at HN
        clear HST HSE o3 g3 o2 hnews2 hon2 hl2
        go_wp2
        go_roundw
        case rel => exact ⟨k + 1, true, by omega, by go_num, rfl, HN⟩
        case measure => simp [intOf]; omega
    ·
     obtain rfl : k = N := by omega
     obtain ⟨F, l, P, R, hR, hf, ht, hfin⟩ := hI
     have HN : ∃ s1, CutO w1 g cap k Q s1 more u3 wr ∧ (more = true → s1 + 2 ≤ s0 + 1) := ⟨sumL k R, ⟨F, l, P, R, hR, rfl, fun q i hi => (hf q).2 i hi hi, by rw [← restG_end]; exact hfin⟩, fun q => by have := ht q; omega⟩
     obtain ⟨s1, hN1, hN2⟩ := HN
     clear hfin hR hf ht HI HEN
     go_wp2
     go_roundg (s0 + 1)
     case measure => omega
     case rel => exact ⟨s1, more, rfl, hN1, hN2⟩
/- The program's writer of frames: cut. -/
theorem row_repl {b : Nat} {t : TypeId} {m : Nat} (z : Value) : ∀ (n o : Nat) (w : World) (f : Nat → Value), w.rowIs b t m f → (w.setCells b o (List.replicate n z)).rowIs b t m (fun i => if o ≤ i ∧ i < o + n then z else f i)
 | 0, o, w, f, h => h.congr (fun i _ => by rw [if_neg (by omega)])
 |
  n + 1, o, w, f, h => (row_repl z n (o + 1) _ _ (h.set o z)).congr (fun i _ => by
  show (if o + 1 ≤ i ∧ i < o + 1 + n then z else if i = o then z else f i) = _
  by_cases h1 : o + 1 ≤ i ∧ i < o + 1 + n
  · rw [if_pos h1, if_pos (by omega)]
  ·
   rw [if_neg h1]
   by_cases h2 : i = o
   · rw [if_pos h2, if_pos (by omega)]
   · rw [if_neg h2, if_neg (by omega)])
theorem zero_row (w : World) : (zeroValue 80).run Tryz.prog w = .ok (.slice none 0 0) w := by kernel_rfl
/-- Nothing waits. -/
theorem clear_fin {W : Nat → Prop} {B : Nat} {w1 : World} {gx N : Nat} {f : Nat → Value} {gw : Nat} {fq : Nat → Value} {Q : Nat → List UInt8} {tk wd : Nat} {vb : Value} {off : Nat} {lr : Int} {M : List UInt8} {closed : Bool} (h : Wt W B w1 gx N f gw fq Q tk wd vb off lr M closed) :
 (w1.setCells gw 0 (List.replicate N (.slice none 0 0))).cell? ⟨gx, 2, none⟩ = some (.int .i64 (wd : Nat)) ∧ (w1.setCells gw 0 (List.replicate N (.slice none 0 0))).frozen? ⟨gx, 2, none⟩ = false ∧
 Wt W B ((w1.setCells gw 0 (List.replicate N (.slice none 0 0))).setCell ⟨gx, 2, none⟩ (.int .i64 0)) gx N (upd1 f 2 (.int .i64 0)) gw (fun i => if 0 ≤ i ∧ i < 0 + N then .slice none 0 0 else fq i) (fun _ => []) tk 0 vb off lr M closed ∧ Kw w1 ((w1.setCells gw 0 (List.replicate N (.slice none 0 0))).setCell ⟨gx, 2, none⟩ (.int .i64 0)) W := by
 obtain ⟨k1, k2, k3, k4, k5⟩ := cells_kept (b := gw) (List.replicate N (.slice none 0 0)) 0 w1
 have hr2 := row_repl (.slice none 0 0) N 0 w1 fq h.qrow
 generalize w1.setCells gw 0 (List.replicate N (.slice none 0 0)) = w2 at k1 k2 k3 k4 k5 hr2 ⊢
 have hx2 := h.buf.row.of_block (k5 gx (fun e => h.gne e.symm))
 have hz : (w2.setCell ⟨gx, 2, none⟩ (.int .i64 0)).heap.size = w2.heap.size := by simp [World.setCell]
 have b4 : ∀ b, b ≠ gw → b ≠ gx → (w2.setCell ⟨gx, 2, none⟩ (.int .i64 0)).heap[b]? = w1.heap[b]? := fun b h1 h2 => (Below.heap_setCell _ _ _ _ h2).trans (k5 b h1)
 refine ⟨by rw [hx2.cell (by omega), h.f2], hx2.frozen 2, ⟨?_, ?_, upd1_eq _ _ _, ?_, h.few, ?_, h.bnil, hr2.of_block (Below.heap_setCell _ _ _ _ h.gne), fun c hc => ?_, fun c hc => ?_, fun c hc d hd hne g e => ?_, h.gne, h.vbw, ⟨h.inW.1, h.inW.2.1, h.inW.2.2.1, fun c hc g e => ?_⟩, fun b q => by have := h.live b q; omega⟩, ⟨k2, k3, k4, by omega, fun b _ hw => b4 b (fun e => hw (e ▸ h.inW.2.1)) (fun e => hw (e ▸ h.inW.1))⟩⟩
 · rw [upd1_ne (by omega)]; exact h.f0
 · rw [upd1_ne (by omega)]; exact h.f1
 · rw [upd1_ne (by omega)]; exact h.f6
 ·
  refine ⟨(hx2.set 2 _).congr (fun i _ => rfl), h.buf.room, ?_, ?_, ?_, ownsRow_frame h.buf.own (fun g e => b4 g (fun e2 => h.vbw (e2 ▸ e)) (fun e2 => h.buf.ne (e2 ▸ e))), h.buf.le, h.buf.ne⟩
  · rw [upd1_ne (by omega)]; exact h.buf.f0
  · rw [upd1_ne (by omega)]; exact h.buf.f1
  · rw [upd1_ne (by omega)]; exact h.buf.f2
 ·
  simp only [if_pos (show 0 ≤ c ∧ c < 0 + N by omega)]
  exact World.ownsRow_nil _ _ _ _
 ·
  simp only [if_pos (show 0 ≤ c ∧ c < 0 + N by omega)]
  exact ⟨by simp [Value.ownBlock], by simp [Value.ownBlock], fun g _ => by simp [Value.ownBlock]⟩
 ·
  simp only [if_pos (show 0 ≤ c ∧ c < 0 + N by omega)] at e
  simp [Value.ownBlock] at e
 ·
  simp only [if_pos (show 0 ≤ c ∧ c < 0 + N by omega)] at e
  simp [Value.ownBlock] at e
set_option maxRecDepth 4000 in
set_option maxHeartbeats 400000 in
theorem wcut_any (W : Nat → Prop) (B gx N : Nat) (Q : Nat → List UInt8) (tk wd : Nat) (L : List UInt8) (n : Nat) (closed : Bool) (w : World) (h : MemW W B w gx N Q tk wd L n closed) (h1 : 1 ≤ N) (hq : sumL N Q ≤ 1600) (_hB : B ≤ w.heap.size) :
 Calls Tryz.prog 33 #[.pointer (some ⟨gx, 0, none⟩)] w fun e w' => ∃ S : ByteArray, e = .returned (.string S) ∧ CutsE N S.data.toList Q ∧ S.size ≤ 3 * sumL N Q ∧ Kw w w' W ∧ MemW (WN W w.heap.size w'.heap.size) B w' gx N (fun _ => []) tk 0 L n closed := by
 obtain ⟨f, gw, fq, vb, off, lr, M, h, hd, hml⟩ := h
 have c0 := h.buf.row.cell (i := 0) (by omega)
 rw [h.f0] at c0
 have HC : Hid (_) := fcut_any B gw N fq Q w h.qrow h1 h.few h.q hq
 go_enter Tryz.func33, Tryz.ntmps33
 go_wp2_with fail
 refine Calls.mono HC.out ?_
 rintro e w1 ⟨S, rfl, hcu, hsz, hb⟩
 have h2 : Wt W B w1 gx N f gw fq Q tk wd vb off lr M closed := h.frame hb.size (fun b q => hb.block b (h.live b q))
 have d0 := h2.buf.row.cell (i := 0) (by omega)
 rw [h2.f0] at d0
 have hcl := Go.Lib.run_clear_slice (P := Tryz.prog) w1 89 80 0 (.slice none 0 0) Tryz.underlying89 zero_row rfl rfl gw 0 N N (by omega) (fun j hj => by rw [Nat.zero_add, h2.qrow.cell hj]; rfl) (fun j hj => by rw [Nat.zero_add]; exact h2.qrow.frozen j)
 obtain ⟨y0, y1, hW, hK⟩ := clear_fin h2
 have HP : Hid (Kw w ((w1.setCells gw 0 (List.replicate N (.slice none 0 0))).setCell ⟨gx, 2, none⟩ (.int .i64 0)) W ∧ MemW (WN W w.heap.size ((w1.setCells gw 0 (List.replicate N (.slice none 0 0))).setCell ⟨gx, 2, none⟩ (.int .i64 0)).heap.size) B ((w1.setCells gw 0 (List.replicate N (.slice none 0 0))).setCell ⟨gx, 2, none⟩ (.int .i64 0)) gx N (fun _ => []) tk 0 L n closed) := by
  have hs := hb.size
  have hs2 := hK.size
  refine ⟨(Kw.below hb).trans hK (fun _ _ q => q), ⟨_, _, _, _, _, _, _, ⟨hW.f0, hW.f1, hW.f2, hW.f6, hW.few, hW.buf, hW.bnil, hW.qrow, hW.q, hW.qne, hW.apart, hW.gne, hW.vbw, ⟨Or.inl hW.inW.1, Or.inl hW.inW.2.1, fun g e => Or.inl (hW.inW.2.2.1 g e), fun c hc g e => Or.inl (hW.inW.2.2.2 c hc g e)⟩, fun b q => ?_⟩, hd, hml⟩⟩
  rcases q with q | q
  · exact hW.live b q
  · exact q.2
 generalize w1.setCells gw 0 (List.replicate N (.slice none 0 0)) = w2 at hcl y0 y1 HP
 clear HC c0 hW hK h h2 hd hml hb
 go_wp2_with fail
 go_ret
 exact ⟨S, rfl, hcu, hsz, HP.out⟩
end Go.Proofs.YtecddphahiadlaaGreatDoor
