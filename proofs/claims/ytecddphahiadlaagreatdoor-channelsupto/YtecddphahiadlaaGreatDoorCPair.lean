import Derived.Test.YtecddphahiadlaaGreatDoorCSym
import Derived.Test.YtecddphahiadlaaGreatDoorCFixed
import Derived.Test.YtecddphahiadlaaGreatDoorCApp
import Derived.Deep.RegionLawGrows
import Derived.Deep.CutBlock
import Derived.Deep.DeepCutAuto
/- The document's used, bases, order. -/
namespace Go.Proofs.YtecddphahiadlaaGreatDoor
open Go.RowKit
/-- How many of the first k numbers are above 0. -/
def usedN (z : Nat → Int) : Nat → Nat
 | 0 => 0
 | k + 1 => usedN z k + if 0 < z k then 1 else 0
theorem usedN_le (z : Nat → Int) (k : Nat) : usedN z k ≤ k := by
 induction k with
 | zero => simp [usedN]
 | succ k ih => simp only [usedN]; split <;> omega
set_option maxHeartbeats 400000 in
theorem used_any (b off n cap : Nat) (z : Nat → Int) (w : World) (hz : IntsAt w b off n z) (hn : n ≤ 1000) :
 Calls Tryz.prog 115 #[.slice (some ⟨b, off, none⟩) n cap] w fun e w' => e = .returned (.int .i64 (usedN z n : Nat)) ∧ w' = w := by
 go_enter Tryz.func115, Tryz.ntmps115
 go_wp2
 go_loop [3, 4] (fun p i => ∃ k : Nat, k ≤ n ∧ i = .int .i64 k ∧ p = .int .i64 (usedN z k : Nat)) (fun _ i => n - (intOf i).toNat)
 case atStart => exact ⟨0, by omega, rfl, rfl⟩
 case round =>
  obtain ⟨k, hk, rfl, rfl⟩ := hrel
  have hu := usedN_le z k
  by_cases hlt : k < n
  ·
   have hc := hz.cell k hlt
   by_cases h0 : 0 < z k
   ·
    have HU : Hid (usedN z (k + 1) = usedN z k + 1) := by show _ = _; simp only [usedN]; rw [if_pos h0]
    go_wp2
    go_round
    case rel => exact ⟨k + 1, by omega, by go_num, by rw [HU.out]; go_num⟩
    case measure => simp [intOf]; omega
   ·
    have HU : Hid (usedN z (k + 1) = usedN z k) := by show _ = _; simp only [usedN]; rw [if_neg h0, Nat.add_zero]
    go_wp2
    go_round
    case rel => exact ⟨k + 1, by omega, by go_num, by rw [HU.out]⟩
    case measure => simp [intOf]; omega
  ·
   obtain rfl : k = n := by omega
   go_wp2
   go_ret
   exact ⟨rfl, rfl⟩
/-- How many bits are added for symbol i; and the least number that it tells. -/
def moreN (none each i : Nat) : Nat := if none ≤ i then 1 + (i - none) / each else 0
def baseN (first none each : Nat) : Nat → Nat
 | 0 => first
 | i + 1 => baseN first none each i + 2 ^ moreN none each i
theorem moreN_le (none each i : Nat) (he : 2 ≤ each) (hi : i ≤ 31) : moreN none each i ≤ 16 := by
 unfold moreN
 split
 ·
  have : (i - none) / each ≤ (i - none) / 2 := Nat.div_le_div_left he (by omega)
  omega
 · omega
theorem baseN_le (first none each : Nat) (he : 2 ≤ each) (hf : first ≤ 3) : ∀ i, i ≤ 31 → baseN first none each i ≤ 3 + i * 65536
 | 0, _ => by simp [baseN]; omega
 |
  i + 1, hi => by
  have ih := baseN_le first none each he hf i (by omega)
  have h1 := moreN_le none each i he (by omega)
  have h2 : 2 ^ moreN none each i ≤ 2 ^ 16 := Nat.pow_le_pow_right (by omega) h1
  have h3 : (2 : Nat) ^ 16 = 65536 := rfl
  simp only [baseN]
  omega
set_option maxHeartbeats 400000 in
theorem bases_any (k first none each : Nat) (w : World) (hk : k ≤ 30) (hf : first ≤ 3) (hno : none ≤ 30) (he : 2 ≤ each) (he2 : each ≤ 30) :
 Calls Tryz.prog 129 #[.int .i64 (k : Int), .int .i64 (first : Int), .int .i64 (none : Int), .int .i64 (each : Int)] w fun e w' => e = .returned (.tuple #[.int .i64 (baseN first none each k : Nat), .int .i64 (moreN none each k : Nat)]) ∧ w' = w := by
 go_enter Tryz.func129, Tryz.ntmps129
 go_wp2_with fail
 go_loop [10, 11, 12, 13] (fun b i _ _ => ∃ j : Nat, j ≤ k ∧ i = .int .i64 (j : Nat) ∧ b = .int .i64 (baseN first none each j : Nat)) (fun _ i _ _ => k + 1 - (intOf i).toNat)
 case atStart => exact ⟨0, by omega, rfl, rfl⟩
 case round =>
  obtain ⟨j, hj, rfl, rfl⟩ := hrel
  have hml := moreN_le none each j he (by omega)
  have hbl := baseN_le first none each he hf j (by omega)
  obtain ⟨bs, hbs⟩ : ∃ bs, bs = baseN first none each j := ⟨_, rfl⟩
  rw [← hbs] at hbl ⊢
  have HBS : Hid (bs = baseN first none each j) := hbs
  clear hbs
  by_cases hlo : none ≤ j
  ·
   have d1 : decide ((none : Int) ≤ (j : Int)) = true := by rw [decide_eq_true_iff]; omega
   obtain ⟨x, hx⟩ : ∃ x, x = (j - none) / each := ⟨_, rfl⟩
   have hxI : ((j : Int) - (none : Int)) / (each : Int) = (x : Int) := by
    rw [hx]
    have : ((j - none : Nat) : Int) = (j : Int) - (none : Int) := by omega
    rw [← this]; simp
   have hm : moreN none each j = 1 + x := by unfold moreN; rw [if_pos hlo, hx]
   rw [hm] at hml
   have HM : Hid (moreN none each j = 1 + x) := hm
   clear hx hm
   by_cases hjk : j = k
   ·
    subst hjk
    have e1 : ((j : Int) == (j : Int)) = true := by simp
    go_wp2
    go_ret2
    exact ⟨by rw [HBS.out, HM.out]; rfl, rfl⟩
   ·
    have e1 : ((j : Int) == (k : Int)) = false := by rw [beq_eq_false_iff_ne]; omega
    go_wp2
    go_loop [12, 13] (fun m p => ∃ t : Nat, t ≤ (1 + x) ∧ m = .int .i64 ((1 + x) - t : Nat) ∧ p = .int .i64 (2 ^ t : Nat)) (fun m _ => (intOf m).toNat)
    case atStart => exact ⟨0, by omega, by go_num, rfl⟩
    case round =>
     obtain ⟨t, ht, rfl, rfl⟩ := hrel
     have hp : 2 ^ t ≤ 2 ^ 16 := Nat.pow_le_pow_right (by omega) (by omega)
     have h16 : (2 : Nat) ^ 16 = 65536 := rfl
     obtain ⟨P, hP⟩ : ∃ P, P = 2 ^ t := ⟨_, rfl⟩
     obtain ⟨y, hy⟩ : ∃ y, y = (1 + x) - t := ⟨_, rfl⟩
     have hPb : P ≤ 65536 := by omega
     rw [← hP, ← hy]
     clear hp h16
     by_cases hlt : t < (1 + x)
     ·
      have h1 : 1 ≤ y := by omega
      have h2 : y ≤ 16 := by omega
      have HY : Hid (y = (1 + x) - t) := hy
      have HP : Hid (2 * P = 2 ^ (t + 1)) := by show _ = _; rw [hP, Nat.pow_succ, Nat.mul_comm]
      clear hy hP
      go_wp2
      go_round
      case rel => exact ⟨t + 1, by omega, by have := HY.out; go_num, by rw [← HP.out]; go_num⟩
      case measure => simp [intOf]; omega
     ·
      obtain rfl : y = 0 := by omega
      have HB2 : Hid (baseN first none each (j + 1) = bs + P) := by
       show _ = _
       simp only [baseN]
       rw [HM.out, ← HBS.out, hP, show t = (1 + x) from by omega]
      clear hy hP
      go_wp2
      go_round
      case rel => exact ⟨j + 1, by omega, by go_num, by rw [HB2.out]; go_num⟩
      case measure => simp [intOf]; omega
  ·
   have d1 : decide ((none : Int) ≤ (j : Int)) = false := by rw [decide_eq_false_iff_not]; omega
   have HM : Hid (moreN none each j = 0) := by show _ = _; unfold moreN; rw [if_neg hlo]
   by_cases hjk : j = k
   ·
    subst hjk
    have e1 : ((j : Int) == (j : Int)) = true := by simp
    go_wp2
    go_ret2
    exact ⟨by rw [HBS.out, HM.out]; rfl, rfl⟩
   ·
    have e1 : ((j : Int) == (k : Int)) = false := by rw [beq_eq_false_iff_ne]; omega
    go_wp2
    go_loop [12, 13] (fun m p => ∃ t : Nat, t ≤ 0 ∧ m = .int .i64 (0 - t : Nat) ∧ p = .int .i64 (2 ^ t : Nat)) (fun m _ => (intOf m).toNat)
    case atStart => exact ⟨0, by omega, by go_num, rfl⟩
    case round =>
     obtain ⟨t, ht, rfl, rfl⟩ := hrel
     have hp : 2 ^ t ≤ 2 ^ 16 := Nat.pow_le_pow_right (by omega) (by omega)
     have h16 : (2 : Nat) ^ 16 = 65536 := rfl
     obtain ⟨P, hP⟩ : ∃ P, P = 2 ^ t := ⟨_, rfl⟩
     obtain ⟨y, hy⟩ : ∃ y, y = 0 - t := ⟨_, rfl⟩
     have hPb : P ≤ 65536 := by omega
     rw [← hP, ← hy]
     clear hp h16
     by_cases hlt : t < 0
     · omega
     ·
      obtain rfl : y = 0 := by omega
      have HB2 : Hid (baseN first none each (j + 1) = bs + P) := by
       show _ = _
       simp only [baseN]
       rw [HM.out, ← HBS.out, hP, show t = 0 from by omega]
      clear hy hP
      go_wp2
      go_round
      case rel => exact ⟨j + 1, by omega, by go_num, by rw [HB2.out]; go_num⟩
      case measure => simp [intOf]; omega
/- One more element on a slice of the call's own, as one step of a statement whose order is open. -/
theorem run_append1 {P : Program} (w : World) (base : Nat) (t ty e : TypeId) (z : Value) (bytes : Nat) (h1 : P.underlying t = some (.slice e)) (hinfo : (P.info? e).map (fun i => (i.zero, i.size, i.bytes)) = some (some z, 1, bytes)) (hz1 : z.cells.size = 1)
 (v : Value) (n : Nat) (xs : List Value) (u : Value) (hu : u.oneCell' = true) (gn c : Nat) (hc : w.cell? ⟨gn, 0, none⟩ = some u)
 (hown : w.ownsRow base e 1 v n xs) (hbase : base ≤ w.heap.size) (b1 : n + 1 ≤ maxLen) (b2 : (n + 1) * bytes ≤ 140737488355328) :
 ∃ g' cap' w', (Builtin.append_ #[t, t] ty #[v, .slice (some ⟨gn, 0, none⟩) 1 c]).run P w = .ok (.slice (some ⟨g', 0, none⟩) (n + 1) cap') w' ∧ w'.ownsRow base e 1 (.slice (some ⟨g', 0, none⟩) (n + 1) cap') (n + 1) (xs ++ [u]) ∧
  (w.heap.size ≤ g' ∨ v.ownBlock = some g') ∧ w.grownBy w' (some g') := by
 obtain ⟨i0, hi, hz0, hs1, hby⟩ := info_parts hinfo
 have hone : ∀ y ∈ [u], y.oneCell' = true := by intro y hy; simp at hy; subst hy; exact hu
 have hcells : ∀ j y, [u][j]? = some y → w.cell? ((⟨gn, 0, none⟩ : Addr).add j) = some y := by
  intro j y hj
  match j, hj with
  |
   0, hj =>
   simp only [List.getElem?_cons_zero, Option.some.injEq] at hj
   subst hj
   rw [addr_add0]; exact hc
  | j + 1, hj => simp at hj
 have fin : ∀ v' w', (Builtin.append_ #[t, t] ty #[v, .slice (some ⟨gn, 0, none⟩) 1 c]).run P w = .ok v' w' → w'.ownsRow w.heap.size e 1 v' (n + 1) (xs ++ [u]) → w.grownBy w' none → ∃ g' cap' w', (Builtin.append_ #[t, t] ty #[v, .slice (some ⟨gn, 0, none⟩) 1 c]).run P w = .ok (.slice (some ⟨g', 0, none⟩) (n + 1) cap') w' ∧ w'.ownsRow base e 1 (.slice (some ⟨g', 0, none⟩) (n + 1) cap') (n + 1) (xs ++ [u]) ∧
  (w.heap.size ≤ g' ∨ v.ownBlock = some g') ∧ w.grownBy w' (some g') := by
  intro v' w' hrun ho hgr
  obtain ⟨q1, q2⟩ := ho
  rcases q2 with ⟨_, q2⟩ | ⟨g', cap', cur, hv', hb, r⟩
  · omega
  ·
   subst hv'
   exact ⟨g', cap', w', hrun, ⟨q1, Or.inr ⟨g', cap', cur, rfl, by omega, r⟩⟩, Or.inl hb, ⟨hgr.os, hgr.tape, hgr.output, hgr.size, fun k hk _ => hgr.block k hk (by simp)⟩⟩
 have hown0 := hown
 obtain ⟨q1, q2⟩ := hown
 rcases q2 with ⟨hv, hn0⟩ | ⟨g, cap, cur, hv, hb, hh, hnc, hcm, hcs, htk⟩
 ·
  subst hv
  subst hn0
  obtain rfl : xs = [] := List.eq_nil_of_length_eq_zero (by simpa using q1)
  obtain ⟨v', w', hrun, r1, r2, _⟩ := run_append_own (P := P) w w.heap.size t ty e i0 z 1 bytes h1 hi hz0 hs1 hby hz1 (by omega) (.slice none 0 0) 0 [] (World.ownsRow_nil w _ e 1) ⟨gn, 0, none⟩ 1 c [u] rfl hcells hone b1 b2 (Nat.le_refl _)
  exact fin v' w' hrun r1 r2
 ·
  subst hv
  by_cases hroom : n + 1 ≤ cap
  ·
   obtain ⟨w', hrun, r1, r2⟩ := run_append_fits (P := P) w base t ty e i0 1 h1 hi hs1 g n cap xs hown0 ⟨gn, 0, none⟩ 1 c [u] rfl hcells hone hroom
   exact ⟨g, cap, w', hrun, r1, Or.inr rfl, r2⟩
  ·
   obtain ⟨v', w', hrun, r1, r2⟩ := run_append_arg_grows (P := P) w t ty e i0 z 1 bytes h1 hi hz0 hs1 hby hz1 (by omega) ⟨g, 0, none⟩ n cap xs q1 (hown0.cells (g := g) rfl) ⟨gn, 0, none⟩ 1 c [u] rfl hcells (by omega) b1 b2
   exact fin v' w' hrun r1 r2
theorem step_append1 {P : Program} {ops : Array Oper} {o : Oper} {a : Act} {w : World} {K : Act → World → Prop} {Q : Exit → Act → World → Prop} {E : Prop}
 (hg : o.guard = none) (s x : Operand) (t : TypeId) (hop : o.op = Op.call { callee := Callee.builtin Builtin.append, args := #[s, x], argTypes := #[t, t] })
 (base : Nat) (e : TypeId) (z : Value) (bytes : Nat) (h1 : P.underlying t = some (.slice e)) (hinfo : (P.info? e).map (fun i => (i.zero, i.size, i.bytes)) = some (some z, 1, bytes)) (hz1 : z.cells.size = 1)
 (v : Value) (n : Nat) (xs : List Value) (u : Value) (hs : a.eval s = v) (hu : u.oneCell' = true) (gn c : Nat) (hx : a.eval x = .slice (some ⟨gn, 0, none⟩) 1 c) (hc : w.cell? ⟨gn, 0, none⟩ = some u)
 (hown : w.ownsRow base e 1 v n xs) (hbase : base ≤ w.heap.size) (b1 : n + 1 ≤ maxLen) (b2 : (n + 1) * bytes ≤ 140737488355328)
 (hK : ∀ g' cap' w', w'.ownsRow base e 1 (.slice (some ⟨g', 0, none⟩) (n + 1) cap') (n + 1) (xs ++ [u]) → (w.heap.size ≤ g' ∨ v.ownBlock = some g') → w.grownBy w' (some g') → K (a.put o.dst (.slice (some ⟨g', 0, none⟩) (n + 1) cap')) w') :
 if Region.wanted o (yielded ops a.tmps) = true then Oper.wp P o a w K Q else E := by
 have hw : Region.wanted o (yielded ops a.tmps) = true := by simp [Region.wanted, hg]
 rw [if_pos hw]
 obtain ⟨g', cap', w', hrun, r1, r2, r3⟩ := run_append1 (P := P) w base t o.type e z bytes h1 hinfo hz1 v n xs u hu gn c hc hown hbase b1 b2
 unfold Oper.wp
 simp [execOp, hop, resolve, invoke, builtin, hs, hx, hrun, Result.andThen]
 exact hK g' cap' w' r1 r2 r3
/- Lengths and distances by the document: plain reckoning. -/
/-- n bytes from further ahead. -/
def copyF (back : Nat) : Nat → List UInt8 → List UInt8
 | 0, t => t
 | n + 1, t => copyF back n (t ++ [t.getD (t.length - back) 0])
theorem copyF_length (back : Nat) : ∀ (n : Nat) (t : List UInt8), (copyF back n t).length = t.length + n
 | 0, t => rfl
 | n + 1, t => by simp only [copyF]; rw [copyF_length back n, List.length_append]; simp; omega
def pairN (y : Nat) : Nat := if y = 285 then 258 else baseN 3 8 4 (y - 257)
def pairM (y : Nat) : Nat := if y = 285 then 0 else moreN 8 4 (y - 257)
/-- What is done once both numbers are read. -/
def pairEnd (n back : Nat) (σ : St) : St :=
 if σ.why ≠ 0 then σ else if σ.text.length < back then stopF σ 1 else if 5000 < σ.text.length + n then stopF σ 3 else { σ with text := copyF back n σ.text }
def distSt (k : Int × St) : St := if k.2.why = 0 ∧ 29 < k.1 then stopF k.2 1 else k.2
/-- Behind the distance's symbol. -/
def pairDist (s : ByteArray) (n : Nat) (k : Int × St) : St :=
 if (distSt k).why ≠ 0 then distSt k
 else pairEnd n (baseN 1 4 2 k.1.toNat + (numF s (moreN 4 2 k.1.toNat) k.2).1) (numF s (moreN 4 2 k.1.toNat) k.2).2
def pairF (s : ByteArray) (c : Nat → ByteArray) (n y : Nat) (σ : St) : St :=
 pairDist s (pairN y + (numF s (pairM y) σ).1) (symF s c n (numF s (pairM y) σ).2)
theorem pairM_le (y : Nat) (h1 : 257 ≤ y) (h2 : y ≤ 285) : pairM y ≤ 8 := by
 unfold pairM moreN
 split
 · omega
 ·
  split
  · omega
  · omega
theorem pairN_le (y : Nat) (h2 : y ≤ 285) : pairN y ≤ 2000000 := by
 unfold pairN
 split
 · omega
 ·
  have := baseN_le 3 8 4 (by omega) (by omega) (y - 257) (by omega)
  omega
theorem baseN_pos (first none each : Nat) (hf : 1 ≤ first) : ∀ i, 1 ≤ baseN first none each i
 | 0 => hf
 | i + 1 => by exact Nat.le_trans (baseN_pos first none each hf i) (Nat.le_add_right _ _)
theorem stopF_why {σ : St} {y : Nat} (hy : y ≠ 0) : (stopF σ y).why ≠ 0 := by
 unfold stopF
 split
 · exact hy
 · assumption
theorem hitF_lt {c : Nat → ByteArray} {cur : ByteArray} {n : Nat} : ∀ (r k : Nat), k + r = n → ∀ i, hitF c cur r k = some i → i < n
 | 0, _, _, i, h => by simp [hitF] at h
 |
  r + 1, k, hk, i, h => by
  simp only [hitF] at h
  split at h
  · obtain rfl := Option.some.inj h; omega
  · exact hitF_lt r (k + 1) (by omega) i h
theorem bitF_text (s : ByteArray) (σ : St) : (bitF s σ).2.text = σ.text := by
 unfold bitF
 split
 · rfl
 · split <;> rfl
theorem symGo_fst {s : ByteArray} {c : Nat → ByteArray} {n : Nat} (hc : ∀ i, i < n → (c i).size ≤ 15) : ∀ (f : Nat) (cur : ByteArray) (σ : St), cur.size + f = 17 → cur.size ≤ 15 → (symGo s c n f cur σ).2.why = 0 → ∃ k : Nat, k < n ∧ (symGo s c n f cur σ).1 = (k : Int)
 | 0, cur, σ, h1, h2, _ => by omega
 |
  f + 1, cur, σ, h1, h2, hw => by
  simp only [symGo] at hw ⊢
  cases hh : hitF c cur n 0 with
  |
   some i =>
   rw [hh] at hw
   exact ⟨i, hitF_lt n 0 (by omega) i hh, rfl⟩
  |
   none =>
   simp only [hh] at hw ⊢
   by_cases hsb : someB c cur n = true
   ·
    rw [if_pos hsb] at hw ⊢
    by_cases hb : (bitF s σ).2.why = 0
    ·
     rw [if_pos hb] at hw ⊢
     have hsz := someB_size hc hsb
     have hl := letB_size cur (bitF s σ).1 (bitF_lt s σ)
     exact symGo_fst hc f _ _ (by omega) (by omega) hw
    ·
     rw [if_neg hb] at hw
     exact absurd hw hb
   ·
    rw [if_neg hsb] at hw
    exact absurd hw (stopF_why (by omega))
theorem symF_fst {s : ByteArray} {c : Nat → ByteArray} {n : Nat} (hc : ∀ i, i < n → (c i).size ≤ 15) (σ : St) (hw : (symF s c n σ).2.why = 0) : ∃ k : Nat, k < n ∧ (symF s c n σ).1 = (k : Int) :=
 symGo_fst hc 17 .empty σ rfl (by decide) hw
theorem Fit.sym {s : ByteArray} {c : Nat → ByteArray} {n : Nat} : ∀ (f : Nat) (cur : ByteArray) {σ : St}, Fit s σ → Fit s (symGo s c n f cur σ).2
 | 0, _, _, h => h
 |
  f + 1, cur, σ, h => by
  simp only [symGo]
  split
  · exact h
  ·
   split
   ·
    split
    · exact Fit.sym f _ h.bit
    · exact h.bit
   · exact h.stop 1
theorem Fit.symF {s : ByteArray} {c : Nat → ByteArray} {n : Nat} {σ : St} (h : Fit s σ) : Fit s (symF s c n σ).2 := Fit.sym 17 _ h
theorem Fit.pairEnd {s : ByteArray} {n back : Nat} {σ : St} (h : Fit s σ) : Fit s (pairEnd n back σ) := by
 unfold Go.Proofs.YtecddphahiadlaaGreatDoor.pairEnd
 split
 · exact h
 ·
  split
  · exact h.stop 1
  ·
   split
   · exact h.stop 3
   · exact ⟨h.pos, by show (copyF back n σ.text).length ≤ 5000; rw [copyF_length]; omega⟩
theorem Fit.pairF {s : ByteArray} {c : Nat → ByteArray} {n y : Nat} {σ : St} (h : Fit s σ) : Fit s (pairF s c n y σ) := by
 have h1 : Fit s (Go.Proofs.YtecddphahiadlaaGreatDoor.symF s c n (numF s (pairM y) σ).2).2 := (h.num _).symF
 unfold Go.Proofs.YtecddphahiadlaaGreatDoor.pairF pairDist
 generalize Go.Proofs.YtecddphahiadlaaGreatDoor.symF s c n (numF s (pairM y) σ).2 = k at h1 ⊢
 split
 ·
  unfold distSt
  split
  · exact h1.stop 1
  · exact h1
 · exact (h1.num _).pairEnd
/- The document's pair: a length and a distance. -/
/-- The state of the loop over the bytes: k are still to come. -/
structure CR (B : Nat) (w wr : World) (gx : Nat) (s : ByteArray) (vt : Value) (back k : Nat) (σ goal : St) : Prop where
 runs : Runs B w wr gx s vt σ
 one : 1 ≤ back
 far : back ≤ σ.text.length
 room : σ.text.length + k ≤ 5000
 eq : { σ with text := copyF back k σ.text } = goal
theorem CR.zero {B : Nat} {w wr : World} {gx : Nat} {s : ByteArray} {vt : Value} {back : Nat} {σ goal : St} (h : CR B w wr gx s vt back 0 σ goal) : Runs B w wr gx s vt goal := by
 rw [← h.eq]; exact h.runs
theorem cr_step {B : Nat} {w wr w4 : World} {gx : Nat} {s : ByteArray} {vt vt' : Value} {back k : Nat} {σ goal : St} (h : CR B w wr gx s vt back (k + 1) σ goal) (hkp : Kp w wr gx vt)
 (hfr : ∀ g, vt'.ownBlock = some g → vt.ownBlock = some g ∨ w.heap.size ≤ g) (h4 : Runs B wr w4 gx s vt' { σ with text := σ.text ++ [σ.text.getD (σ.text.length - back) 0] }) :
 CR B w w4 gx s vt back k { σ with text := σ.text ++ [σ.text.getD (σ.text.length - back) 0] } goal := by
 have hf := h.far
 have hr := h.room
 refine ⟨Runs.trans hkp hfr h4, h.one, ?_, ?_, ?_⟩
 · show back ≤ (σ.text ++ _).length; rw [List.length_append]; omega
 · show (σ.text ++ _).length + k ≤ 5000; rw [List.length_append]; simp; omega
 · rw [← h.eq]; rfl
theorem text_form {B : Nat} {w : World} {gx : Nat} {s : ByteArray} {σ : St} {vt : Value} (h : Str B w gx s σ vt) : ∃ ao cap, vt = .slice ao σ.text.length cap := by
 obtain ⟨_, q⟩ := h.own
 rcases q with ⟨q, q0⟩ | ⟨g, cap, cur, q, _⟩
 · exact ⟨none, 0, by rw [q, q0]⟩
 · exact ⟨_, _, q⟩
theorem text_form1 {B : Nat} {w : World} {gx : Nat} {s : ByteArray} {σ : St} {vt : Value} (h : Str B w gx s σ vt) (h1 : 1 ≤ σ.text.length) : ∃ g cap, vt = .slice (some ⟨g, 0, none⟩) σ.text.length cap := by
 obtain ⟨_, q⟩ := h.own
 rcases q with ⟨q, q0⟩ | ⟨g, cap, cur, q, _⟩
 · omega
 · exact ⟨_, _, q⟩
theorem byteVals_get (l : List UInt8) (j : Nat) (hj : j < l.length) : (byteVals l)[j]? = some (.int .u8 ((l.getD j 0).toNat : Int)) := by
 unfold byteVals
 rw [List.getElem?_map, List.getElem?_eq_getElem hj]
 simp [List.getD_eq_getElem?_getD, List.getElem?_eq_getElem hj]
theorem pair_more {B : Nat} {w w2 : World} {gx : Nat} {s : ByteArray} {σ : St} {vt : Value} {o : Obj} {c : UInt8} {g cp T g' cap' : Nat} (h : Str B w gx s σ vt) (hvt : vt = .slice (some ⟨g, 0, none⟩) σ.text.length cp) (hT : T = σ.text.length)
 (ho : w2.ownsRow B 5 1 (.slice (some ⟨g', 0, none⟩) (T + 1) cap') (T + 1) (byteVals σ.text ++ [.int .u8 (c.toNat : Int)])) (hd : w.heap.size + 1 ≤ g' ∨ Value.ownBlock (.slice (some ⟨g, 0, none⟩) T cp) = some g') (hg : (w.alloc o).drew.grownBy w2 (some g')) :
 w2.cell? ⟨gx, 2, none⟩ = some vt ∧ w2.frozen? ⟨gx, 2, none⟩ = false ∧ Runs B w (w2.setCell ⟨gx, 2, none⟩ (.slice (some ⟨g', 0, none⟩) (T + 1) cap')) gx s vt { σ with text := σ.text ++ [c] } := by
 subst hT
 have hd' : w.heap.size + 1 ≤ g' ∨ vt.ownBlock = some g' := by rw [hvt]; exact hd
 obtain ⟨_, hrow, R⟩ := str_more h ho hd' (o := o) ⟨hg.os, hg.tape, hg.output, hg.size, hg.block⟩
 exact ⟨by simpa using hrow.cell (i := 2) (by omega), hrow.frozen 2, R⟩
/-- What a cut keeps: both numbers, and the memory as it was. -/
def PairCut (y : Nat) (w : World) (a b : Value) (wx : World) : Prop := a = .int .i64 (pairN y : Nat) ∧ b = .int .i64 (pairM y : Nat) ∧ wx = w
set_option maxRecDepth 4000 in
set_option maxHeartbeats 1000000 in
theorem pair_any (B gx gl n cap y : Nat) (s : ByteArray) (c : Nat → ByteArray) (σ : St) (vt : Value) (w : World) (h : Str B w gx s σ vt) (hB : B ≤ w.heap.size) (hs : s.size ≤ 140737488400000) (hf : Fit s σ)
 (hl : w.rowIs gl 9 n (fun i => .string (c i))) (hgl : gl ≠ gx) (hvl : vt.ownBlock ≠ some gl) (hn : n ≤ 1000) (hc : ∀ i, i < n → (c i).size ≤ 15) (hy1 : 257 ≤ y) (hy2 : y ≤ 285) :
 Calls Tryz.prog 112 #[.pointer (some ⟨gx, 0, none⟩), .int .i64 (y : Int), .slice (some ⟨gl, 0, none⟩) n cap] w fun e w' => e = .returned (.tuple #[]) ∧ Runs B w w' gx s vt (pairF s c n y σ) := by
 obtain ⟨z, hz⟩ : ∃ z, z = y - 257 := ⟨_, rfl⟩
 have hzI : (y : Int) - 257 = (z : Int) := by omega
 have hzb : z ≤ 30 := by omega
 have hbl := baseN_le 3 8 4 (by omega) (by omega) z (by omega)
 have hml := moreN_le 8 4 z (by omega) (by omega)
 have HZ : Hid (z = y - 257) := hz
 clear hz
 go_enter Tryz.func112, Tryz.ntmps112
 go_wp2_with fail
 refine (bases_any z 3 8 4 _ hzb (by omega) (by omega) (by omega) (by omega)).mono ?_
 rintro e w1 ⟨rfl, rfl⟩
 go_upto_if 17 with fail
 go_cut [6, 7] (fun a b wx => PairCut y w1 a b wx)
 case first =>
  by_cases h285 : y = 285
  ·
   have e1 : ((y : Int) == 285) = true := by rw [beq_iff_eq]; omega
   have HA : Hid (pairN y = 258) := by show _ = _; unfold pairN; rw [if_pos h285]
   have HB : Hid (pairM y = 0) := by show _ = _; unfold pairM; rw [if_pos h285]
   clear h285 hzI hbl hml hl hc hB hf h
   go_wp2_with fail
   go_meet
   exact ⟨by rw [HA.out]; rfl, by rw [HB.out]; rfl, rfl⟩
  ·
   have e1 : ((y : Int) == 285) = false := by rw [beq_eq_false_iff_ne]; omega
   have HA : Hid (pairN y = baseN 3 8 4 z) := by show _ = _; unfold pairN; rw [if_neg h285, HZ.out]
   have HB : Hid (pairM y = moreN 8 4 z) := by show _ = _; unfold pairM; rw [if_neg h285, HZ.out]
   go_wp2_with fail
   go_meet
   exact ⟨by rw [HA.out], by rw [HB.out], rfl⟩
 case rest =>
  obtain ⟨rfl, rfl, rfl⟩ := hcut
  have pm := pairM_le y hy1 hy2
  have pn := pairN_le y hy2
  have HF : Hid (pairF s c n y σ = pairDist s (pairN y + (numF s (pairM y) σ).1) (symF s c n (numF s (pairM y) σ).2)) := rfl
  clear hzI hzb hbl hml HZ
  generalize pairM y = M at pm HF ⊢
  generalize pairN y = N at pn HF ⊢
  have f2 := hf.num M
  have nb := numF_lt s M σ
  have nb8 : 2 ^ M ≤ 2 ^ 8 := Nat.pow_le_pow_right (by omega) (by omega)
  have h28 : (2 : Nat) ^ 8 = 256 := rfl
  have nb' : (numF s M σ).1 < 256 := by omega
  clear nb nb8 h28
  go_wp2_with fail
  refine (number_any B gx M s σ vt _ h hs hf.pos (by omega)).mono ?_
  rintro e w2 ⟨rfl, h2, k2⟩
  have hrow2 := hl.of_block (k2.block gl hl.lt hgl hvl)
  have hB2 : B ≤ w2.heap.size := Nat.le_trans hB k2.size
  generalize numF s M σ = q at HF f2 h2 nb' ⊢
  obtain ⟨a, σ2⟩ := q
  simp only at HF f2 h2 nb' ⊢
  clear hf pm
  obtain ⟨L, hL⟩ : ∃ L, L = N + a := ⟨_, rfl⟩
  have hLI : (N : Int) + (a : Int) = (L : Int) := by omega
  have hLb : L ≤ 3000000 := by omega
  rw [← hL] at HF
  clear hL
  have hfst := symF_fst hc σ2 (s := s)
  have f3 : Fit s (symF s c n σ2).2 := f2.symF
  go_wp2_with fail
  refine (symbol_any B gx gl n cap s c σ2 vt _ h2 hs f2 hrow2 hgl hvl hn hc).mono ?_
  rintro e w3 ⟨rfl, h3, k3⟩
  have K3 := k2.trans k3
  have hB3 : B ≤ w3.heap.size := Nat.le_trans hB2 k3.size
  generalize symF s c n σ2 = q at HF f3 h3 hfst ⊢
  obtain ⟨k, σ3⟩ := q
  simp only at HF f3 h3 hfst ⊢
  clear k2 k3 hrow2 h2 f2 hl hc h hB hB2
  have d3 := h3.c3
  by_cases hy : σ3.why = 0
  ·
   have e3 : ((σ3.why : Int) == 0) = true := by rw [beq_iff_eq]; omega
   obtain ⟨k', hk', rfl⟩ := hfst hy
   by_cases hk29 : 29 < k'
   ·
    have HD : Hid (pairF s c n y σ = stopF σ3 1) := by
     show _ = _
     have e : distSt ((k' : Int), σ3) = stopF σ3 1 := by unfold distSt; rw [if_pos ⟨hy, by show (29 : Int) < (k' : Int); omega⟩]
     rw [HF.out]; unfold pairDist; rw [e, if_pos (stopF_why (by omega))]
    have hw4 := stopF_why (σ := σ3) (y := 1) (by omega)
    clear hfst HF hy
    go_wp2_with fail
    refine (stops_any B gx 1 s σ3 vt _ h3).mono ?_
    rintro e w4 ⟨rfl, h4, k4⟩
    have R : Runs B wc w4 gx s vt (pairF s c n y σ) := by rw [HD.out]; exact ⟨vt, h4, K3.trans k4, fun _ hg => Or.inl hg⟩
    have d4 := h4.c3
    generalize stopF σ3 1 = σ4 at d4 hw4
    have e4 : ((σ4.why : Int) != 0) = true := by rw [bne_iff_ne]; omega
    clear HD h4 k4 h3 hw4
    go_wp2
    first | go_end0 | (refine bodyPost_ret (results_none rfl _ _ _) rfl ?_)
    exact ⟨rfl, R⟩
   ·
    have HD : Hid (pairF s c n y σ = pairEnd L (baseN 1 4 2 k' + (numF s (moreN 4 2 k') σ3).1) (numF s (moreN 4 2 k') σ3).2) := by
     show _ = _
     have e : distSt ((k' : Int), σ3) = σ3 := by unfold distSt; rw [if_neg (by show ¬ (_ ∧ (29 : Int) < (k' : Int)); omega)]
     rw [HF.out]; unfold pairDist; rw [e, if_neg (by omega)]; rfl
    have e3' : ((σ3.why : Int) != 0) = false := by rw [bne_eq_false_iff_eq]; omega
    have hbl := baseN_le 1 4 2 (by omega) (by omega) k' (by omega)
    have hbp := baseN_pos 1 4 2 (by omega) k'
    have hml := moreN_le 4 2 k' (by omega) (by omega)
    clear hfst HF hy
    go_wp2_with fail
    refine (bases_any k' 1 4 2 _ (by omega) (by omega) (by omega) (by omega) (by omega)).mono ?_
    rintro e w1 ⟨rfl, rfl⟩
    generalize moreN 4 2 k' = M2 at hml HD ⊢
    generalize baseN 1 4 2 k' = N2 at hbl hbp HD ⊢
    have f4 := f3.num M2
    have nb := numF_lt s M2 σ3
    have nb8 : 2 ^ M2 ≤ 2 ^ 16 := Nat.pow_le_pow_right (by omega) (by omega)
    have h28 : (2 : Nat) ^ 16 = 65536 := rfl
    have nb2 : (numF s M2 σ3).1 < 65536 := by omega
    clear nb nb8 h28
    go_wp2_with fail
    refine (number_any B gx M2 s σ3 vt _ h3 hs f3.pos (by omega)).mono ?_
    rintro e w4 ⟨rfl, h4, k4⟩
    have K4 := K3.trans k4
    have hB4 : B ≤ w4.heap.size := Nat.le_trans hB3 k4.size
    generalize numF s M2 σ3 = q at HD f4 h4 nb2 ⊢
    obtain ⟨a2, σ4⟩ := q
    simp only at HD f4 h4 nb2 ⊢
    obtain ⟨bk, hbk⟩ : ∃ bk, bk = N2 + a2 := ⟨_, rfl⟩
    have hbI : (N2 : Int) + (a2 : Int) = (bk : Int) := by omega
    have hbk1 : 1 ≤ bk := by omega
    have hbk2 : bk ≤ 3000000 := by omega
    rw [← hbk] at HD
    clear hbk h3 k4 K3 f3 hB3 d3 e3 e3'
    have d4 := h4.c3
    by_cases hy4 : σ4.why = 0
    ·
     have e4 : ((σ4.why : Int) != 0) = false := by rw [bne_eq_false_iff_eq]; omega
     obtain ⟨ao, cp, hvt⟩ := text_form h4
     have d2 := h4.c2
     rw [hvt] at d2
     have ht := f4.text
     by_cases hfar : σ4.text.length < bk
     ·
      have HE : Hid (pairF s c n y σ = stopF σ4 1) := by
       show _ = _
       rw [HD.out]; unfold pairEnd; rw [if_neg (by omega), if_pos hfar]
      clear HD hy4 hvt
      go_wp2_with fail
      refine (stops_any B gx 1 s σ4 vt _ h4).mono ?_
      rintro e w5 ⟨rfl, h5, k5⟩
      have R : Runs B wc w5 gx s vt (pairF s c n y σ) := by rw [HE.out]; exact ⟨vt, h5, K4.trans k5, fun _ hg => Or.inl hg⟩
      clear HE h5 k5 h4
      go_wp2
      first | go_end0 | (refine bodyPost_ret (results_none rfl _ _ _) rfl ?_)
      exact ⟨rfl, R⟩
     ·
      by_cases hlong : 5000 < σ4.text.length + L
      ·
       have HE : Hid (pairF s c n y σ = stopF σ4 3) := by
        show _ = _
        rw [HD.out]; unfold pairEnd; rw [if_neg (by omega), if_neg hfar, if_pos hlong]
       clear HD hy4 hvt
       go_wp2_with fail
       refine (stops_any B gx 3 s σ4 vt _ h4).mono ?_
       rintro e w5 ⟨rfl, h5, k5⟩
       have R : Runs B wc w5 gx s vt (pairF s c n y σ) := by rw [HE.out]; exact ⟨vt, h5, K4.trans k5, fun _ hg => Or.inl hg⟩
       clear HE h5 k5 h4
       go_wp2
       first | go_end0 | (refine bodyPost_ret (results_none rfl _ _ _) rfl ?_)
       exact ⟨rfl, R⟩
      ·
       have R0 : CR B wc w4 gx s vt bk L σ4 (pairF s c n y σ) := by
        refine ⟨⟨vt, h4, K4, fun _ hg => Or.inl hg⟩, hbk1, by omega, by omega, ?_⟩
        rw [HD.out]; unfold pairEnd; rw [if_neg (by omega), if_neg hfar, if_neg hlong]
       clear HD hy4 hvt
       go_wp2_with fail
       go_loopw [6] (fun i wr => ∃ (k : Nat) (σ5 : St), i = .int .i64 (k : Nat) ∧ CR B wc wr gx s vt bk k σ5 (pairF s c n y σ)) (fun i _ => (intOf i).toNat)
       case atStart => exact ⟨L, σ4, rfl, R0⟩
       case round =>
        clear R0 h4 K4 d4 e4 d2 ht hfar hlong hB4 f4
        obtain ⟨k, σ5, rfl, hrel⟩ := hrel
        obtain ⟨vt', hstr, hkp, hfr⟩ := hrel.runs
        have hrm := hrel.room
        have hfa := hrel.far
        by_cases hk : 0 < k
        ·
         obtain ⟨k1, rfl⟩ : ∃ k1, k = k1 + 1 := ⟨k - 1, by omega⟩
         obtain ⟨g, cp5, hvt⟩ := text_form1 hstr (by omega)
         have c2 := hstr.c2
         have f2 := hstr.fz 2
         have hown := hstr.own
         rw [hvt] at c2 hown
         have hcell := hown.cells (g := g) rfl (σ5.text.length - bk) _ (byteVals_get σ5.text (σ5.text.length - bk) (by omega))
         have HST : Hid (_) := fun w4 => cr_step (w4 := w4) hrel hkp hfr
         generalize hcv : σ5.text.getD (σ5.text.length - bk) 0 = cv at hcell HST
         obtain ⟨T, hT⟩ : ∃ T, T = σ5.text.length := ⟨_, rfl⟩
         obtain ⟨j, hj⟩ : ∃ j, j = T - bk := ⟨_, rfl⟩
         rw [← hT] at c2 hown hcell hrm hfa
         rw [← hj] at hcell
         have hjI : (T : Int) - (bk : Int) = (j : Int) := by omega
         have hj1 : j < T := by omega
         have hj2 : (j : Int) < (T : Int) := by omega
         rw [addr_add0] at hcell
         have hBr : B ≤ wr.heap.size := Nat.le_trans (Nat.le_of_lt (Nat.lt_of_le_of_lt hstr.le hstr.row.lt)) (Nat.le_refl _)
         obtain ⟨k2, hk2⟩ : ∃ k2, k2 = k1 + 1 := ⟨_, rfl⟩
         rw [← hk2] at hrm ⊢
         have HK : Hid (k2 = k1 + 1) := hk2
         have hkp0 : 0 < k2 := by omega
         have HT : Hid (T = σ5.text.length) := hT
         have HG : Hid (_) := hstr
         have HV : Hid (_) := hvt
         have c2a : (wr.alloc (.cells #[.int .u8 (cv.toNat : Int)] 5)).cell? ⟨gx, 2, none⟩ = some (.slice (some ⟨g, 0, none⟩) T cp5) := by
          have e := (hstr.row.of_block (Below.heap_alloc wr (.cells #[.int .u8 (cv.toNat : Int)] 5) gx hstr.row.lt)).cell (i := 2) (by omega)
          rw [hT, ← hvt]
          simpa using e
         have hwr : IntKind.i64.wrap (j : Int) = (j : Int) := by rw [IntKind.wrap_i64]; omega
         clear hk hj hcv hrel hkp hk2 hT hstr hvt
         go_wp2_with fail
         go_region_law (
          refine step_append1 rfl (.tmp 84) (.tmp 98) 80 rfl B 5 (.int .u8 0) 1 Tryz.underlying80 Tryz.info5 rfl (.slice (some ⟨g, 0, none⟩) T cp5) T _ (.int .u8 (cv.toNat : Int)) (by simp [Act.eval]) rfl wr.heap.size 1 (by simp [Act.eval]) (by simp) (hown.alloc _).drew (by simp; omega) (by unfold maxLen; omega) (by omega) ?_
          intro g' cap' w5 ho hd hg
          obtain ⟨k5, fz5, R5⟩ := pair_more HG.out HV.out HT.out ho (by simpa using hd) hg
          clear ho hd hg)
         all_goals
          go_wp2
          go_roundw
          case rel => exact ⟨k1, _, by have := HK.out; go_num, HST.out _ R5⟩
          case measure => simp [intOf]; omega
        ·
         obtain rfl : k = 0 := by omega
         have R := hrel.zero
         clear hstr hkp hfr hrel
         go_wp2
         go_end0
         exact ⟨rfl, R⟩
    ·
     have e4 : ((σ4.why : Int) != 0) = true := by rw [bne_iff_ne]; omega
     have R : Runs B wc w4 gx s vt (pairF s c n y σ) := by
      rw [HD.out]; unfold pairEnd; rw [if_pos (by omega)]; exact ⟨vt, h4, K4, fun _ hg => Or.inl hg⟩
     clear HD h4 K4 hy4
     go_wp2
     first | go_end0 | (refine bodyPost_ret (results_none rfl _ _ _) rfl ?_)
     exact ⟨rfl, R⟩
  ·
   have e3 : ((σ3.why : Int) == 0) = false := by rw [beq_eq_false_iff_ne]; omega
   have e3' : ((σ3.why : Int) != 0) = true := by rw [bne_iff_ne]; omega
   have R : Runs B wc w3 gx s vt (pairF s c n y σ) := by
    have e : distSt (k, σ3) = σ3 := by unfold distSt; rw [if_neg (by show ¬ (σ3.why = 0 ∧ _); omega)]
    rw [HF.out]; unfold pairDist; rw [e, if_pos (by omega)]; exact ⟨vt, h3, K3, fun _ hg => Or.inl hg⟩
   clear HF h3 K3 hy hfst
   go_wp2
   first | go_end0 | (refine bodyPost_ret (results_none rfl _ _ _) rfl ?_)
   exact ⟨rfl, R⟩
end Go.Proofs.YtecddphahiadlaaGreatDoor
