import Derived.Test.YtecddphahiadlaaDoorCGSymF
import Derived.Test.YtecddphahiadlaaDoorCGFit
import Derived.Test.YtecddphahiadlaaDoorCGStored
/- The program's Symbol: a symbol by a set, letter by letter. -/
namespace Go.Proofs.YtecddphahiadlaaDoor
open Go.RowKit

theorem setA_at (c : Nat → Nat) (v : Value) : ∀ i, i < 17 → (setA c v)[i]? = some (if i < 16 then .int .i64 (c i : Nat) else v)
  | 0, _ => rfl
  | 1, _ => rfl
  | 2, _ => rfl
  | 3, _ => rfl
  | 4, _ => rfl
  | 5, _ => rfl
  | 6, _ => rfl
  | 7, _ => rfl
  | 8, _ => rfl
  | 9, _ => rfl
  | 10, _ => rfl
  | 11, _ => rfl
  | 12, _ => rfl
  | 13, _ => rfl
  | 14, _ => rfl
  | 15, _ => rfl
  | 16, _ => rfl
  | n + 17, h => absurd h (by omega)

theorem setA_row (c : Nat → Nat) (v : Value) (w : World) : (w.alloc (.cells (setA c v) 145)).rowIs w.heap.size 145 17 (fun i => if i < 16 then .int .i64 (c i : Nat) else v) :=
  World.rowIs_alloc w (setA c v) 145 _ (fun i hi => setA_at c v i hi)

theorem or_bit (x b : Nat) (hx : x < 32768) (hb : b < 2) : bits BinOp.or IntKind.i64 ((x : Int) * 2) (b : Int) = ((2 * x + b : Nat) : Int) := by
  have e : ((x : Int) * 2) = ((2 * x : Nat) : Int) := by omega
  have h1 : (BitVec.ofInt 64 ((2 * x : Nat) : Int)).toNat = 2 * x := by
    rw [BitVec.ofInt_natCast, BitVec.toNat_ofNat]; exact Nat.mod_eq_of_lt (by omega)
  have h2 : (BitVec.ofInt 64 (b : Int)).toNat = b := by
    rw [BitVec.ofInt_natCast, BitVec.toNat_ofNat]; exact Nat.mod_eq_of_lt (by omega)
  rw [e]
  show IntKind.i64.wrap ((BitVec.ofInt 64 ((2 * x : Nat) : Int) ||| BitVec.ofInt 64 (b : Int)).toNat : Int) = _
  have h3 : 2 * x ||| b = 2 * x + b := (Nat.two_pow_add_eq_or_of_lt (i := 1) hb x).symm
  rw [BitVec.toNat_or, h1, h2, h3, IntKind.wrap_i64]
  omega

/-- A set in memory: what its value is. -/
structure SetIn (w : World) (z : Nat → Int) (n g : Nat) (sy : Nat → Nat) : Prop where
  tidy : Tidy z n
  many : n ≤ 288
  row : w.rowIs g 3 (pas (cntN z n) 15) (fun p => .int .i64 (sy p : Nat))
  ok : SyOk z n sy

def setV (z : Nat → Int) (n g : Nat) : Value := .agg (setA (cntN z n) (.slice (some ⟨g, 0, none⟩) (pas (cntN z n) 15) (pas (cntN z n) 15)))

theorem SetIn.kp {w w' : World} {z : Nat → Int} {n g gx : Nat} {sy : Nat → Nat} {vt : Value} (h : SetIn w z n g sy) (k : Kp w w' gx vt) (hx : g ≠ gx) (hv : vt.ownBlock ≠ some g) : SetIn w' z n g sy :=
  ⟨h.tidy, h.many, h.row.of_block (k.block g h.row.lt hx hv), h.ok⟩

theorem Kp.alloc (w : World) (o : Obj) (gx : Nat) (vt : Value) : Kp w (w.alloc o) gx vt := ⟨rfl, rfl, rfl, by simp, fun b hb _ _ => Below.heap_alloc w o b hb⟩
theorem Rd.alloc {B : Nat} {w : World} {gx : Nat} {s : ByteArray} {σ : St} {vt : Value} {fx : Ex} (h : Rd B w gx s σ vt fx) (o : Obj) : Rd B (w.alloc o) gx s σ vt fx := ⟨h.le, h.big, h.row.alloc o, h.own.alloc o, h.ne⟩

/-- What Symbol answers. -/
def SymPost (B : Nat) (w : World) (gx : Nat) (s : ByteArray) (vt : Value) (fx : Ex) (goal : Int × St) (e : Ending) (w' : World) : Prop :=
  ∃ σ', Rd B w' gx s σ' vt fx ∧ Kp w w' gx vt ∧ ((∃ k : Nat, e = .returned (.tuple #[.int .i64 (k : Nat), .bool true]) ∧ goal = ((k : Int), σ') ∧ σ'.why = 0) ∨
    (e = .returned (.tuple #[.int .i64 0, .bool false]) ∧ goal = (-1, stopF σ' 1) ∧ σ'.why = 0) ∨ (σ'.why ≠ 0 ∧ e = endOf σ'.why .nilFunc ∧ goal = (-1, σ')))

/-- The state of the loop: L letters are read. -/
structure SyR (B : Nat) (w wr : World) (gx : Nat) (s : ByteArray) (vt : Value) (fx : Ex) (z : Nat → Int) (n L x f : Nat) (σ : St) (goal : Int × St) : Prop where
  rd : Rd B wr gx s σ vt fx
  kp : Kp w wr gx vt
  fit : Fit s σ
  why : σ.why = 0
  st : SymSt z n L x
  fuel : L + f = 16
  eq : symGo s (codeT z n) n (f + 1) (bitsB x L) σ = goal

set_option maxRecDepth 4000 in
set_option maxHeartbeats 1000000 in
theorem setSymbol_any (B gx g n : Nat) (s : ByteArray) (σ : St) (vt : Value) (fx : Ex) (z : Nat → Int) (sy : Nat → Nat) (w : World) (h : Rd B w gx s σ vt fx) (hs : s.size ≤ 140737488400000) (hf : Fit s σ) (hy : σ.why = 0)
    (hset : SetIn w z n g sy) (hgx : g ≠ gx) (hvg : vt.ownBlock ≠ some g) :
    Calls Tryd.prog 108 #[setV z n g, .func (.func 107) #[.pointer (some ⟨gx, 0, none⟩)] #[]] w (SymPost B w gx s vt fx (symF s (codeT z n) n σ)) := by
  have hrow := setA_row (cntN z n) (.slice (some ⟨g, 0, none⟩) (pas (cntN z n) 15) (pas (cntN z n) 15)) w
  have hT := pas_all z n hset.tidy.rng
  have hmany := hset.many
  have hK0 : Kp w (w.alloc (.cells (setA (cntN z n) (.slice (some ⟨g, 0, none⟩) (pas (cntN z n) 15) (pas (cntN z n) 15))) 145)) gx vt := Kp.alloc w _ gx vt
  have hgl := h.row.lt
  have hgv : vt.ownBlock ≠ some w.heap.size := fun e => by have := h.own.lt _ e; omega
  have R0 : SyR B (w.alloc (.cells (setA (cntN z n) (.slice (some ⟨g, 0, none⟩) (pas (cntN z n) 15) (pas (cntN z n) 15))) 145)) (w.alloc (.cells (setA (cntN z n) (.slice (some ⟨g, 0, none⟩) (pas (cntN z n) 15) (pas (cntN z n) 15))) 145)) gx s vt fx z n 0 0 16 σ (symF s (codeT z n) n σ) :=
    ⟨h.alloc _, Kp.refl _ _ _, hf, hy, SymSt.start z n, rfl, rfl⟩
  have hset1 := hset.kp hK0 hgx hvg
  unfold setV
  generalize symF s (codeT z n) n σ = goal at R0 ⊢
  clear h hf hy
  go_enter Tryd.func108, Tryd.ntmps108
  go_wp2_with fail
  generalize w.alloc (.cells (setA (cntN z n) (.slice (some ⟨g, 0, none⟩) (pas (cntN z n) 15) (pas (cntN z n) 15))) 145) = w1 at hrow hK0 R0 hset1 ⊢
  obtain ⟨gs, hgs⟩ : ∃ gs, gs = w.heap.size := ⟨_, rfl⟩
  rw [← hgs] at hrow hgv ⊢
  have hgsx : gs ≠ gx := by omega
  clear hgl hgs hset
  go_loopw [6, 7, 8, 9] (fun code first passed length wr => ∃ (L x f : Nat) (σ1 : St), code = .int .i64 (x : Nat) ∧ first = .int .i64 (topN (cntN z n) L : Nat) ∧ passed = .int .i64 (pas (cntN z n) L : Nat) ∧ length = .int .i64 (L + 1 : Nat) ∧ SyR B w1 wr gx s vt fx z n L x f σ1 goal) (fun _ _ _ length _ => 20 - (intOf length).toNat)
  case atStart => exact ⟨0, 0, 16, σ, rfl, rfl, rfl, rfl, R0⟩
  case round =>
    obtain ⟨L, x, f, σ1, rfl, rfl, rfl, rfl, hrel⟩ := hrel
    clear R0
    have hrw := hrow.of_block (hrel.kp.block gs hrow.lt hgsx hgv)
    have hst1 := hset1.kp hrel.kp hgx hvg
    have c16 := hrw.cell (i := 16) (by omega)
    rw [if_neg (by omega)] at c16
    have hPL := pas_mono (cntN z n) hrel.st.le
    by_cases hp : pas (cntN z n) L < pas (cntN z n) 15
    · have hL15 := hrel.st.more hp
      have cL := hrw.cell (i := L + 1) (by omega)
      rw [if_pos (by omega)] at cL
      have hxlt := hrel.st.lt
      have hx15 : 2 ^ L ≤ 2 ^ 14 := Nat.pow_le_pow_right (by omega) (by omega)
      have h14 : (2 : Nat) ^ 14 = 16384 := rfl
      have hxb : x < 16384 := by omega
      have htop := hrel.st.top
      have htb : topN (cntN z n) L < 16384 := by omega
      have hfi := fi_top2 (cntN z n) L
      have hcc : cntN z n (L + 1) ≤ 288 := Nat.le_trans (cntN_le z n _) hmany
      have hsym := hrel.st
      have hGO := hrel.eq
      rw [hsym.go hst1.tidy hp] at hGO
      have hfu := hrel.fuel
      obtain ⟨f', rfl⟩ : ∃ f', f = f' + 1 := ⟨f - 1, by omega⟩
      have HGO : Hid (_) := hGO
      have HFI : Hid (_) := hfi
      have hpI : (pas (cntN z n) L : Int) < (pas (cntN z n) 15 : Int) := by omega
      clear hGO hfi hxlt hx15 h14
      go_wp2_with fail
      refine (gbit_any B gx s σ1 vt fx _ hrel.rd hs hrel.fit.pos hrel.why).mono ?_
      rintro e w2 ⟨he, h2, k2⟩
      have hb2 := bitF_lt s σ1
      have f2 := hrel.fit.bit
      have K2 := hrel.kp.trans k2
      have hrw2 := hrow.of_block (K2.block gs hrow.lt hgsx hgv)
      have hst2 := hset1.kp K2 hgx hvg
      have c16 := hrw2.cell (i := 16) (by omega)
      rw [if_neg (by omega)] at c16
      have cL := hrw2.cell (i := L + 1) (by omega)
      rw [if_pos (by omega)] at cL
      clear hrel k2 hrw
      generalize bitF s σ1 = bb at he h2 hb2 f2 HGO
      obtain ⟨b, σ2⟩ := bb
      simp only at he h2 hb2 f2 HGO
      by_cases hy2 : σ2.why = 0
      · rw [endOf_ok hy2] at he; subst he
        rw [if_pos hy2] at HGO
        obtain ⟨X, hX⟩ : ∃ X, X = 2 * x + b := ⟨_, rfl⟩
        have hO := or_bit x b (by omega) hb2
        rw [← hX] at hO HGO
        obtain ⟨C, hC⟩ : ∃ C, C = cntN z n (L + 1) := ⟨_, rfl⟩
        obtain ⟨P0, hP0⟩ : ∃ P0, P0 = pas (cntN z n) L := ⟨_, rfl⟩
        obtain ⟨F0, hF0⟩ : ∃ F0, F0 = topN (cntN z n) L := ⟨_, rfl⟩
        obtain ⟨T, hTT⟩ : ∃ T, T = pas (cntN z n) 15 := ⟨_, rfl⟩
        have hFF : fi (cntN z n) (L + 1) = 2 * F0 := by rw [hF0]; exact HFI.out
        rw [← hC] at cL hcc
        rw [← hTT] at c16 hpI hPL hT
        rw [← hP0] at hpI hPL ⊢
        rw [← hF0] at htb htop ⊢
        have hXb : X < 32768 := by omega
        have hP0b : P0 ≤ 288 := by omega
        by_cases hfound : X < fi (cntN z n) (L + 1) + cntN z n (L + 1)
        · obtain ⟨q1, q2, q3⟩ := hsym.found hst2.tidy hb2 hst2.ok (by rw [← hX]; exact hfound) s f' σ2
          rw [← hX, hFF, ← hP0] at q1 q2 q3
          obtain ⟨p, hpp⟩ : ∃ p, p = P0 + (X - 2 * F0) := ⟨_, rfl⟩
          rw [← hpp] at q1 q2 q3
          rw [pas_succ, ← hP0, ← hC] at q3
          have hTs := pas_mono (cntN z n) (show L + 1 ≤ 15 by omega)
          rw [pas_succ, ← hP0, ← hC, ← hTT] at hTs
          have cp := hst2.row.cell (i := p) (by omega)
          have hpe : (P0 : Int) + (X : Int) - (F0 : Int) * 2 = (p : Int) := by omega
          have hpT : (p : Int) < (T : Int) := by omega
          have d1 : decide ((X : Int) - (F0 : Int) * 2 < (C : Int)) = true := by rw [decide_eq_true_iff]; omega
          have P : SymPost B w gx s vt fx goal (.returned (.tuple #[.int .i64 (sy p : Nat), .bool true])) w2 := ⟨σ2, h2, hK0.trans K2, Or.inl ⟨sy p, rfl, by rw [← HGO.out, q1], hy2⟩⟩
          clear h2 K2 hst2 hrw2 q1 q2 q3 hsym HGO hset1 hTs HFI hX hC hP0 hF0 hTT hpp hFF hfound hst1 hp
          go_wp2
          go_ret2
          exact P
        · have R : SyR B w1 w2 gx s vt fx z n (L + 1) X f' σ2 goal := ⟨h2, K2, f2, hy2, by rw [hX]; exact hsym.next hst2.tidy hp hb2 (by rw [← hX]; omega), by omega, HGO.out⟩
          have d1 : decide ((X : Int) - (F0 : Int) * 2 < (C : Int)) = false := by rw [decide_eq_false_iff_not]; omega
          have HF1 : Hid (topN (cntN z n) (L + 1) = 2 * F0 + C) := by show _ = _; simp only [topN]; rw [hFF, hC]
          have HP1 : Hid (pas (cntN z n) (L + 1) = P0 + C) := by show _ = _; rw [pas_succ, hP0, hC]
          clear h2 K2 hst2 hrw2 hsym HGO hset1 HFI hX hC hP0 hF0 hTT hFF hfound hst1 hp
          go_wp2
          go_roundw
          case rel => exact ⟨L + 1, X, f', σ2, rfl, by rw [HF1.out]; go_num, by rw [HP1.out]; go_num, by go_num, R⟩
          case measure => simp [intOf]; omega
      · rw [endOf_bad hy2] at he; subst he
        rw [if_neg hy2] at HGO
        have P : SymPost B w gx s vt fx goal (endOf σ2.why .nilFunc) w2 := ⟨σ2, h2, hK0.trans K2, Or.inr (Or.inr ⟨hy2, rfl, HGO.out.symm⟩)⟩
        rw [endOf_bad hy2] at P
        clear h2 K2 hst2 hrw2 hsym HGO hset1 HFI hst1 hp
        go_wp2
        exact ⟨rfl, P⟩
    · have HGO : Hid (goal = (-1, stopF σ1 1)) := by show _ = _; rw [← hrel.eq, hrel.st.stop hst1.tidy hp]
      have P : SymPost B w gx s vt fx goal (.returned (.tuple #[.int .i64 0, .bool false])) wr := ⟨σ1, hrel.rd, hK0.trans hrel.kp, Or.inr (Or.inl ⟨rfl, HGO.out, hrel.why⟩)⟩
      clear hrel hrw hst1
      go_wp2
      go_ret2
      exact P

end Go.Proofs.YtecddphahiadlaaDoor

/- The program's symbol. -/
namespace Go.Proofs.YtecddphahiadlaaDoor
open Go.RowKit

set_option maxRecDepth 4000 in
set_option maxHeartbeats 1000000 in
theorem gsymbol_any (B gx g n : Nat) (s : ByteArray) (σ : St) (vt : Value) (fx : Ex) (z : Nat → Int) (sy : Nat → Nat) (w : World) (h : Rd B w gx s σ vt fx) (hs : s.size ≤ 140737488400000) (hf : Fit s σ) (hy : σ.why = 0)
    (hset : SetIn w z n g sy) (hgx : g ≠ gx) (hvg : vt.ownBlock ≠ some g) :
    Calls Tryd.prog 98 #[.pointer (some ⟨gx, 0, none⟩), setV z n g] w fun e w' => e = endOf (symF s (codeT z n) n σ).2.why (.int .i64 (symF s (codeT z n) n σ).1) ∧ Rd B w' gx s (symF s (codeT z n) n σ).2 vt fx ∧ Kp w w' gx vt := by
  have hmf : ∀ (fn : Fn) (first cap : Array Value) (w : World), (Instr.makeFunc fn first cap).run Tryd.prog w = .ok (.func fn first cap) w := fun _ _ _ _ => rfl
  have hnew : (w.alloc (.cells (setA (cntN z n) (.slice (some ⟨g, 0, none⟩) (pas (cntN z n) 15) (pas (cntN z n) 15))) 145)).drew.heap[w.heap.size]? = _ := heap_alloc_last w (.cells (setA (cntN z n) (.slice (some ⟨g, 0, none⟩) (pas (cntN z n) 15) (pas (cntN z n) 15))) 145)
  have hd := (h.alloc (.cells (setA (cntN z n) (.slice (some ⟨g, 0, none⟩) (pas (cntN z n) 15) (pas (cntN z n) 15))) 145)).drew
  have hK1 : Kp w (w.alloc (.cells (setA (cntN z n) (.slice (some ⟨g, 0, none⟩) (pas (cntN z n) 15) (pas (cntN z n) 15))) 145)).drew gx vt := (Kp.alloc w _ gx vt).drewN 1
  have hset1 := hset.kp hK1 hgx hvg
  unfold setV
  go_enter Tryd.func98, Tryd.ntmps98
  go_wp2_with fail
  refine wp_region_any (by kernel_rfl) ?_
  change wpAny _ _ _ _ _ _ _ (World.drew _)
  refine wpAny_take (i := 1) (v := .pointer (some ⟨gx, 0, none⟩)) rfl (by kernel_rfl) (by kernel_rfl) (by kernel_rfl) (fun _ _ _ h => h) (Or.inl ⟨by rfl, ?_⟩) ?_
  · intro w; go_simp
  refine wpAny_take (i := 2) (v := .pointer (some ⟨gx, 0, none⟩)) rfl (by kernel_rfl) (by kernel_rfl) (by kernel_rfl) (fun _ _ _ h => h) (Or.inl ⟨by rfl, ?_⟩) ?_
  · intro w; go_simp
  refine wpAny_take (i := 3) (v := .pointer (some ⟨gx, 0, none⟩)) rfl (by kernel_rfl) (by kernel_rfl) (by kernel_rfl) (fun _ _ _ h => h) (Or.inl ⟨by rfl, ?_⟩) ?_
  · intro w; go_simp
  refine wpAny_ready (rs := [0, 4]) (by kernel_rfl) (by simp) ?_
  refine AllReady.cons rfl (fun K hK => ?_) (AllReady.cons rfl (fun K hK => ?_) AllReady.nil)
  · refine step_load_row rfl 145 (.tmp 3) rfl w.heap.size (by simp [Act.eval, Act.put]) 145 _ (0, 0) _ hnew Tryd.underlying145 rfl Tryd.size145 ?_
    go_simp
    refine hK _ _ ?_
    clear hK K
    refine wpAny_ready (rs := [4]) (by kernel_rfl) (by simp) ?_
    refine AllReady.cons rfl (fun K hK => ?_) AllReady.nil
    go_simp
    refine hK _ _ ?_
    clear hK K
    refine wpAny_ready (rs := [5]) (by kernel_rfl) (by simp) ?_
    refine AllReady.cons rfl (fun K hK => ?_) AllReady.nil
    go_simp
    go_at_call 108
    refine (setSymbol_any B gx g n s σ vt fx z sy _ hd hs hf hy hset1 hgx hvg).mono ?_
    rintro e w2 ⟨σ2, h2, k2, hcase⟩
    have K2 := hK1.trans k2
    clear k2
    rcases hcase with ⟨k, rfl, hg, hy2⟩ | ⟨rfl, hg, hy2⟩ | ⟨hy2, he, hg⟩
    · go_simp
      first | (refine hK _ _ ?_) | skip
      clear hK K
      refine wpAny_take (i := 6) (v := .tuple #[.int .i64 (k : Nat), .bool true]) rfl (by kernel_rfl) (by kernel_rfl) (by kernel_rfl) (fun _ _ _ h => h) (Or.inl ⟨by rfl, ?_⟩) ?_
      · intro w; go_simp
      refine wpAny_take (i := 7) (v := .int .i64 (k : Nat)) rfl (by kernel_rfl) (by kernel_rfl) (by kernel_rfl) (fun _ _ _ h => h) (Or.inl ⟨by rfl, ?_⟩) ?_
      · intro w; go_simp
      refine wpAny_take (i := 8) (v := .bool true) rfl (by kernel_rfl) (by kernel_rfl) (by kernel_rfl) (fun _ _ _ h => h) (Or.inl ⟨by rfl, ?_⟩) ?_
      · intro w; go_simp
      refine wpAny_ready (rs := [9]) (by kernel_rfl) (by simp) ?_
      refine AllReady.cons rfl (fun K hK => ?_) AllReady.nil
      go_simp
      refine hK _ _ ?_
      clear hK K
      refine wpAny_ready (rs := [10]) (by kernel_rfl) (by simp) ?_
      refine AllReady.cons rfl (fun K hK => ?_) AllReady.nil
      go_simp
      refine hK _ _ ?_
      clear hK K
      refine wpAny_done (by kernel_rfl) ?_ _
      go_wp2
      go_ret
      rw [hg]
      exact ⟨by rw [endOf_ok hy2]; rfl, h2, K2⟩
    · go_simp
      first | (refine hK _ _ ?_) | skip
      clear hK K
      refine wpAny_take (i := 6) (v := .tuple #[.int .i64 0, .bool false]) rfl (by kernel_rfl) (by kernel_rfl) (by kernel_rfl) (fun _ _ _ h => h) (Or.inl ⟨by rfl, ?_⟩) ?_
      · intro w; go_simp
      refine wpAny_take (i := 7) (v := .int .i64 0) rfl (by kernel_rfl) (by kernel_rfl) (by kernel_rfl) (fun _ _ _ h => h) (Or.inl ⟨by rfl, ?_⟩) ?_
      · intro w; go_simp
      refine wpAny_take (i := 8) (v := .bool false) rfl (by kernel_rfl) (by kernel_rfl) (by kernel_rfl) (fun _ _ _ h => h) (Or.inl ⟨by rfl, ?_⟩) ?_
      · intro w; go_simp
      refine wpAny_ready (rs := [9]) (by kernel_rfl) (by simp) ?_
      refine AllReady.cons rfl (fun K hK => ?_) AllReady.nil
      go_simp
      refine hK _ _ ?_
      clear hK K
      refine wpAny_ready (rs := [10]) (by kernel_rfl) (by simp) ?_
      refine AllReady.cons rfl (fun K hK => ?_) AllReady.nil
      go_simp
      refine hK _ _ ?_
      clear hK K
      refine wpAny_done (by kernel_rfl) ?_ _
      have hst : stopF σ2 1 = { σ2 with why := 1 } := by unfold stopF; rw [if_pos hy2]
      go_wp2_with fail
      refine (wrong_any _).mono ?_
      rintro e w4 ⟨rfl, rfl⟩
      rw [endOf_bad (by omega)]
      go_wp2
      rw [hg, hst]
      exact ⟨rfl, rfl, h2.congr rfl rfl, K2⟩
    · rw [endOf_bad hy2] at he; subst he
      clear hK
      go_wp2
      rw [hg, endOf_bad hy2]
      exact ⟨rfl, rfl, h2, K2⟩
  · go_simp
    refine hK _ _ ?_
    clear hK K
    refine wpAny_ready (rs := [0]) (by kernel_rfl) (by simp) ?_
    refine AllReady.cons rfl (fun K hK => ?_) AllReady.nil
    refine step_load_row rfl 145 (.tmp 3) rfl w.heap.size (by simp [Act.eval]) 145 _ (0, 0) _ hnew Tryd.underlying145 rfl Tryd.size145 ?_
    go_simp
    refine hK _ _ ?_
    clear hK K
    refine wpAny_ready (rs := [5]) (by kernel_rfl) (by simp) ?_
    refine AllReady.cons rfl (fun K hK => ?_) AllReady.nil
    go_simp
    go_at_call 108
    refine (setSymbol_any B gx g n s σ vt fx z sy _ hd hs hf hy hset1 hgx hvg).mono ?_
    rintro e w2 ⟨σ2, h2, k2, hcase⟩
    have K2 := hK1.trans k2
    clear k2
    rcases hcase with ⟨k, rfl, hg, hy2⟩ | ⟨rfl, hg, hy2⟩ | ⟨hy2, he, hg⟩
    · go_simp
      first | (refine hK _ _ ?_) | skip
      clear hK K
      refine wpAny_take (i := 6) (v := .tuple #[.int .i64 (k : Nat), .bool true]) rfl (by kernel_rfl) (by kernel_rfl) (by kernel_rfl) (fun _ _ _ h => h) (Or.inl ⟨by rfl, ?_⟩) ?_
      · intro w; go_simp
      refine wpAny_take (i := 7) (v := .int .i64 (k : Nat)) rfl (by kernel_rfl) (by kernel_rfl) (by kernel_rfl) (fun _ _ _ h => h) (Or.inl ⟨by rfl, ?_⟩) ?_
      · intro w; go_simp
      refine wpAny_take (i := 8) (v := .bool true) rfl (by kernel_rfl) (by kernel_rfl) (by kernel_rfl) (fun _ _ _ h => h) (Or.inl ⟨by rfl, ?_⟩) ?_
      · intro w; go_simp
      refine wpAny_ready (rs := [9]) (by kernel_rfl) (by simp) ?_
      refine AllReady.cons rfl (fun K hK => ?_) AllReady.nil
      go_simp
      refine hK _ _ ?_
      clear hK K
      refine wpAny_ready (rs := [10]) (by kernel_rfl) (by simp) ?_
      refine AllReady.cons rfl (fun K hK => ?_) AllReady.nil
      go_simp
      refine hK _ _ ?_
      clear hK K
      refine wpAny_done (by kernel_rfl) ?_ _
      go_wp2
      go_ret
      rw [hg]
      exact ⟨by rw [endOf_ok hy2]; rfl, h2, K2⟩
    · go_simp
      first | (refine hK _ _ ?_) | skip
      clear hK K
      refine wpAny_take (i := 6) (v := .tuple #[.int .i64 0, .bool false]) rfl (by kernel_rfl) (by kernel_rfl) (by kernel_rfl) (fun _ _ _ h => h) (Or.inl ⟨by rfl, ?_⟩) ?_
      · intro w; go_simp
      refine wpAny_take (i := 7) (v := .int .i64 0) rfl (by kernel_rfl) (by kernel_rfl) (by kernel_rfl) (fun _ _ _ h => h) (Or.inl ⟨by rfl, ?_⟩) ?_
      · intro w; go_simp
      refine wpAny_take (i := 8) (v := .bool false) rfl (by kernel_rfl) (by kernel_rfl) (by kernel_rfl) (fun _ _ _ h => h) (Or.inl ⟨by rfl, ?_⟩) ?_
      · intro w; go_simp
      refine wpAny_ready (rs := [9]) (by kernel_rfl) (by simp) ?_
      refine AllReady.cons rfl (fun K hK => ?_) AllReady.nil
      go_simp
      refine hK _ _ ?_
      clear hK K
      refine wpAny_ready (rs := [10]) (by kernel_rfl) (by simp) ?_
      refine AllReady.cons rfl (fun K hK => ?_) AllReady.nil
      go_simp
      refine hK _ _ ?_
      clear hK K
      refine wpAny_done (by kernel_rfl) ?_ _
      have hst : stopF σ2 1 = { σ2 with why := 1 } := by unfold stopF; rw [if_pos hy2]
      go_wp2_with fail
      refine (wrong_any _).mono ?_
      rintro e w4 ⟨rfl, rfl⟩
      rw [endOf_bad (by omega)]
      go_wp2
      rw [hg, hst]
      exact ⟨rfl, rfl, h2.congr rfl rfl, K2⟩
    · rw [endOf_bad hy2] at he; subst he
      clear hK
      go_wp2
      rw [hg, endOf_bad hy2]
      exact ⟨rfl, rfl, h2, K2⟩

end Go.Proofs.YtecddphahiadlaaDoor
