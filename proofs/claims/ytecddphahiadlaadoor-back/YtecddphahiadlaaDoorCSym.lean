/- The document's symbol: by codes, bit by bit. -/
import Derived.Test.YtecddphahiadlaaDoorCPlain
namespace Go.Proofs.YtecddphahiadlaaDoor
open Go.RowKit

/-- Is this code the one, with something in it? -/
def hitB (a cur : ByteArray) : Bool := !(a.toList == []) && (a.toList == cur.toList)
/-- Is this code longer, and begins so? -/
def longB (a cur : ByteArray) : Bool := decide (cur.size < a.size) && ((a.extract 0 cur.size).toList == cur.toList)

/-- The first of the codes from k on (r of them) that is the one. -/
def hitF (c : Nat → ByteArray) (cur : ByteArray) : Nat → Nat → Option Nat
  | 0, _ => none
  | r + 1, k => if hitB (c k) cur = true then some k else hitF c cur r (k + 1)

def someB (c : Nat → ByteArray) (cur : ByteArray) : Nat → Bool
  | 0 => false
  | k + 1 => someB c cur k || longB (c k) cur

/-- One letter more. -/
def letB (cur : ByteArray) (b : Nat) : ByteArray := cur ++ (⟨#[48, 49]⟩ : ByteArray).extract b (b + 1)

def symGo (s : ByteArray) (c : Nat → ByteArray) (n : Nat) : Nat → ByteArray → St → Int × St
  | 0, _, σ => (-1, σ)
  | f + 1, cur, σ => match hitF c cur n 0 with
    | some i => ((i : Int), σ)
    | none => if someB c cur n = true then (if (bitF s σ).2.why = 0 then symGo s c n f (letB cur (bitF s σ).1) (bitF s σ).2 else (-1, (bitF s σ).2)) else (-1, stopF σ 1)

def symF (s : ByteArray) (c : Nat → ByteArray) (n : Nat) (σ : St) : Int × St := symGo s c n 17 .empty σ

theorem hitF_step {c : Nat → ByteArray} {cur : ByteArray} {r k : Nat} (h : hitB (c k) cur = false) : hitF c cur (r + 1) k = hitF c cur r (k + 1) := by
  simp only [hitF]; rw [if_neg (by rw [h]; simp)]
theorem hitF_yes {c : Nat → ByteArray} {cur : ByteArray} {r k : Nat} (h : hitB (c k) cur = true) : hitF c cur (r + 1) k = some k := by
  simp only [hitF]; rw [if_pos h]

/-- The inner loop: k codes are looked at. -/
structure SymIn (c : Nat → ByteArray) (n : Nat) (cur : ByteArray) (k : Nat) : Prop where
  le : k ≤ n
  none : hitF c cur (n - k) k = hitF c cur n 0

theorem symIn_step {c : Nat → ByteArray} {n : Nat} {cur : ByteArray} {k : Nat} (h : SymIn c n cur k) (hk : k < n) (hh : hitB (c k) cur = false) : SymIn c n cur (k + 1) := by
  refine ⟨hk, ?_⟩
  rw [← h.none]
  obtain ⟨r, hr⟩ : ∃ r, n - k = r + 1 := ⟨n - k - 1, by omega⟩
  rw [hr, show n - (k + 1) = r from by omega, hitF_step hh]

theorem someB_size {c : Nat → ByteArray} {cur : ByteArray} : ∀ {n : Nat}, (∀ i, i < n → (c i).size ≤ 15) → someB c cur n = true → cur.size < 15
  | 0, _, h => by simp [someB] at h
  | n + 1, hc, h => by
    simp only [someB, Bool.or_eq_true] at h
    rcases h with h | h
    · exact someB_size (fun i hi => hc i (by omega)) h
    · simp only [longB, Bool.and_eq_true, decide_eq_true_eq] at h
      have := hc n (by omega)
      omega

theorem letB_size (cur : ByteArray) (b : Nat) (hb : b < 2) : (letB cur b).size = cur.size + 1 := by
  unfold letB
  rw [ByteArray.size_append, ByteArray.size_extract]
  have : (⟨#[48, 49]⟩ : ByteArray).size = 2 := rfl
  omega

/-- The state of symbol's outer loop. -/
structure SymRel (B : Nat) (w wr : World) (gx : Nat) (s : ByteArray) (vt : Value) (c : Nat → ByteArray) (n f : Nat) (cur : ByteArray) (σ : St) (goal : Int × St) : Prop where
  str : Str B wr gx s σ vt
  kp : Kp w wr gx vt
  fit : Fit s σ
  size : cur.size + f = 17
  less : cur.size ≤ 15
  eq : symGo s c n f cur σ = goal

theorem hit_yes {a cur : ByteArray} (h : (!a.toList.isEmpty) = true ∧ (a.toList == cur.toList) = true) : hitB a cur = true := by
  unfold hitB
  rw [h.2, Bool.and_true]
  have := h.1
  cases ha : a.toList with
  | nil => rw [ha] at this; simp at this
  | cons x l => rfl
theorem hit_none {a cur : ByteArray} (h : a.toList = []) : hitB a cur = false := by unfold hitB; rw [h]; rfl
theorem hit_not {a cur : ByteArray} (h : (!a.toList.isEmpty) = false ∨ (a.toList == cur.toList) = false) : hitB a cur = false := by
  unfold hitB
  rcases h with h | h
  · cases ha : a.toList with
    | nil => rfl
    | cons x l => rw [ha] at h; simp at h
  · rw [h, Bool.and_false]
theorem some_one {c : Nat → ByteArray} {cur : ByteArray} {k : Nat} (h : someB c cur k = true) : true = someB c cur (k + 1) := by simp [someB, h]
theorem some_long {c : Nat → ByteArray} {cur : ByteArray} {k : Nat} (h : ¬ someB c cur k = true) (h2 : cur.size < (c k).size) : (((c k).extract 0 cur.size).toList == cur.toList) = someB c cur (k + 1) := by
  simp only [someB, longB]
  rw [Bool.eq_false_iff.2 h, Bool.false_or, decide_eq_true h2, Bool.true_and]
theorem some_not {c : Nat → ByteArray} {cur : ByteArray} {k : Nat} (h : ¬ someB c cur k = true) (h2 : ¬ cur.size < (c k).size) : false = someB c cur (k + 1) := by
  simp only [someB, longB]
  rw [Bool.eq_false_iff.2 h, Bool.false_or, decide_eq_false h2, Bool.false_and]

theorem toList_size (a : ByteArray) : a.toList.length = a.size := by rw [ByteArray.toList_eq, Array.length_toList]; rfl

theorem sym_hit {B : Nat} {w wr : World} {gx : Nat} {s : ByteArray} {vt : Value} {c : Nat → ByteArray} {n f : Nat} {cur : ByteArray} {σ : St} {goal : Int × St} (h : SymRel B w wr gx s vt c n f cur σ goal) (hc : ∀ i, i < n → (c i).size ≤ 15) :
    ∀ k, hitB (c k) cur = true → k < n → SymIn c n cur k → goal = ((k : Int), σ) := by
  intro k hh hk hin
  have h1 : (c k).size = cur.size := by
    have h2 : (c k).toList = cur.toList := by
      simp only [hitB, Bool.and_eq_true, beq_iff_eq] at hh
      exact hh.2
    rw [← toList_size, ← toList_size, h2]
  have h3 := hc k hk
  have h4 := h.size
  obtain ⟨f', rfl⟩ : ∃ f', f = f' + 1 := ⟨f - 1, by omega⟩
  have h5 : hitF c cur n 0 = some k := by
    rw [← hin.none]
    obtain ⟨r, hr⟩ : ∃ r, n - k = r + 1 := ⟨n - k - 1, by omega⟩
    rw [hr, hitF_yes hh]
  rw [← h.eq]
  simp only [symGo, h5]

theorem sym_fuel {B : Nat} {w wr : World} {gx : Nat} {s : ByteArray} {vt : Value} {c : Nat → ByteArray} {n f : Nat} {cur : ByteArray} {σ : St} {goal : Int × St} (h : SymRel B w wr gx s vt c n f cur σ goal) : 1 ≤ f := by
  have h1 := h.size
  have h2 := h.less
  omega

set_option maxHeartbeats 1000000 in
theorem symbol_any (B gx gl n cap : Nat) (s : ByteArray) (c : Nat → ByteArray) (σ : St) (vt : Value) (w : World) (h : Str B w gx s σ vt) (hs : s.size ≤ 140737488400000) (hf : Fit s σ)
    (hl : w.rowIs gl 9 n (fun i => .string (c i))) (hgl : gl ≠ gx) (hvl : vt.ownBlock ≠ some gl) (hn : n ≤ 1000) (hc : ∀ i, i < n → (c i).size ≤ 15) :
    Calls Tryd.prog 58 #[.pointer (some ⟨gx, 0, none⟩), .slice (some ⟨gl, 0, none⟩) n cap] w fun e w' => e = .returned (.int .i64 (symF s c n σ).1) ∧ Str B w' gx s (symF s c n σ).2 vt ∧ Kp w w' gx vt := by
  have R0 : SymRel B w w gx s vt c n 17 .empty σ (symF s c n σ) := ⟨h, Kp.refl _ _ _, hf, rfl, by decide, rfl⟩
  generalize hgoal : symF s c n σ = goal at R0 ⊢
  clear hgoal
  go_enter Tryd.func58, Tryd.ntmps58
  go_wp2
  go_loopw [5, 6, 7, 8] (fun x _ _ _ wr => ∃ (f : Nat) (cur : ByteArray) (σ1 : St), x = .string cur ∧ SymRel B w wr gx s vt c n f cur σ1 goal) (fun x _ _ _ _ => 17 - (match x with | .string b => b.size | _ => 0))
  case atStart => exact ⟨17, _, σ, rfl, R0⟩
  case round =>
    obtain ⟨f, cur, σ1, rfl, hrel⟩ := hrel
    clear R0
    have hrow := hl.of_block (hrel.kp.block gl hl.lt hgl hvl)
    go_wp2_with fail
    go_loop [6, 7] (fun y i => ∃ k : Nat, i = .int .i64 (k : Nat) ∧ y = .bool (someB c cur k) ∧ SymIn c n cur k) (fun _ i => n - (intOf i).toNat)
    case atStart => exact ⟨0, rfl, rfl, ⟨by omega, rfl⟩⟩
    case round =>
      obtain ⟨k, rfl, rfl, hin⟩ := hrel
      by_cases hk : k < n
      · have ck := hrow.cell hk
        have ik : (k : Int) < (n : Int) := by omega
        have HH : Hid (∀ k, hitB (c k) cur = true → k < n → SymIn c n cur k → goal = ((k : Int), σ1)) := sym_hit hrel hc
        go_wp2
        all_goals first
          | (go_ret
             have hg := HH.out k (hit_yes (by assumption)) hk hin
             rw [hg]
             exact ⟨rfl, hrel.str, hrel.kp⟩)
          | (go_round
             case rel => exact ⟨k + 1, by go_num, congrArg Value.bool (some_one (by assumption)), symIn_step hin hk (by first | exact hit_none (by assumption) | exact hit_not (by assumption))⟩
             case measure => simp [intOf]; omega)
          | (go_round
             case rel => exact ⟨k + 1, by go_num, congrArg Value.bool (some_long (by assumption) (by assumption)), symIn_step hin hk (by first | exact hit_none (by assumption) | exact hit_not (by assumption))⟩
             case measure => simp [intOf]; omega)
          | (go_round
             case rel => exact ⟨k + 1, by go_num, congrArg Value.bool (some_not (by assumption) (by assumption)), symIn_step hin hk (by first | exact hit_none (by assumption) | exact hit_not (by assumption))⟩
             case measure => simp [intOf]; omega)
      · obtain rfl : k = n := by have := hin.le; omega
        have hno : hitF c cur k 0 = none := by rw [← hin.none, Nat.sub_self]; rfl
        have hfp : 1 ≤ f := sym_fuel hrel
        obtain ⟨f', rfl⟩ : ∃ f', f = f' + 1 := ⟨f - 1, by omega⟩
        have heq := hrel.eq
        simp only [symGo, hno] at heq
        cases hsb : someB c cur k
        · rw [hsb] at heq
          have hg : goal = (-1, stopF σ1 1) := by rw [← heq]; simp
          clear heq hsb
          go_wp2_with fail
          refine (stops_any B gx 1 s σ1 vt _ hrel.str).mono ?_
          rintro e w' ⟨rfl, h', kp⟩
          have kp' := hrel.kp.trans kp
          have HG : Hid (goal = (-1, stopF σ1 1)) := hg
          clear hg kp
          go_wp2
          go_ret
          rw [HG.out]
          exact ⟨rfl, h', kp'⟩
        · rw [hsb, if_pos rfl] at heq
          have hsz := someB_size hc hsb
          have hcs := hrel.size
          have HE : Hid (_) := heq
          clear heq hsb
          have hb2 := bitF_lt s σ1
          have ft := hrel.fit.bit
          go_wp2_with fail
          refine (bit_any B gx s σ1 vt _ hrel.str hs hrel.fit.pos).mono ?_
          rintro e w' ⟨rfl, h', kp⟩
          have kp' := hrel.kp.trans kp
          clear kp
          generalize bitF s σ1 = bb at hb2 h' HE ft ⊢
          obtain ⟨b, σ2⟩ := bb
          simp only at hb2 h' HE ft ⊢
          have d3 := h'.c3
          by_cases hy : σ2.why = 0
          · have e3 : ((σ2.why : Int) != 0) = false := by rw [bne_eq_false_iff_eq]; omega
            have HE2 : Hid (symGo s c k f' (letB cur b) σ2 = goal) := by
              show _ = _
              rw [← HE.out, if_pos hy]
            have hls := letB_size cur b hb2
            have R : SymRel B w w' gx s vt c k f' (letB cur b) σ2 goal := ⟨h', kp', ft, by omega, by omega, HE2.out⟩
            have hcm : cur.size + 2 ≤ 9223372036854775807 := by omega
            unfold letB at R hls
            clear HE HE2 h' hy
            go_wp2
            go_roundw
            case rel => exact ⟨f', _, σ2, rfl, R⟩
            case measure =>
              show 17 - (cur ++ (⟨#[48, 49]⟩ : ByteArray).extract b (b + 1)).size < 17 - cur.size
              omega
          · have e3 : ((σ2.why : Int) != 0) = true := by rw [bne_iff_ne]; omega
            have HG : Hid (goal = (-1, σ2)) := by
              show _ = _
              rw [← HE.out, if_neg hy]
            clear HE hy
            go_wp2
            go_ret
            rw [HG.out]
            exact ⟨rfl, h', kp'⟩

end Go.Proofs.YtecddphahiadlaaDoor
