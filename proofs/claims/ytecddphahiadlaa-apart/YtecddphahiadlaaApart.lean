/- The walk of Apart. -/
import Derived.Test.YtecddphahiadlaaOwn
import Derived.Test.YtecddphahiadlaaCodes
import Derived.Test.YtecddphahiadlaaApartLex
import Derived.BigQuiet
import Derived.Deep.QuietTactic
import Derived.Deep.CutBlock
import Derived.Deep.DeepCutAuto
namespace Go.Proofs.Ytecddphahiadlaa
open Go.RowKit

/-- The lengths, k raw numbers later. -/
structure Tree (w wr : World) (v : Value) (k : Nat) : Prop where
  ex : ∃ g cap n z, v = .slice (some ⟨g, 0, none⟩) n cap ∧ n ≤ k + 2 ∧ OwnI wr w.heap.size g cap n z ∧ Grows z n ∧ Below w.heap.size w wr

theorem tree_start (w : World) : Tree w (w.alloc (.cells #[.int .i64 1, .int .i64 1] 3)) (.slice (some ⟨w.heap.size, 0, none⟩) 2 2) 0 :=
  ⟨_, _, _, _, rfl, by omega, own_two w, Grows.start, (Below.refl _ _).alloc (Nat.le_refl _) _⟩

theorem one_new {w : World} {s : Nat} (hs : w.heap.size = s) (v : Value) (t : TypeId) (j : Nat) (u : Value) (h : [v][j]? = some u) : (w.alloc (.cells #[v] t)).cell? ((⟨s, 0, none⟩ : Addr).add j) = some u := by
  subst hs
  match j, h with
  | 0, h =>
    simp only [List.getElem?_cons_zero, Option.some.injEq] at h
    subst h
    rw [addr_add0]
    simp
  | j + 1, h => simp at h

theorem tree_same {w wr : World} {v : Value} {k : Nat} (h : Tree w wr v k) : Tree w wr v (k + 1) := by
  obtain ⟨g, cap, n, z, h1, h2, h3⟩ := h.ex
  exact ⟨g, cap, n, z, h1, by omega, h3⟩

theorem tree_end {w wr : World} {v : Value} {k : Nat} (h : Tree w wr v k) (hk : k ≤ 60) : Tree w wr v 60 := by
  obtain ⟨g, cap, n, z, h1, h2, h3⟩ := h.ex
  exact ⟨g, cap, n, z, h1, by omega, h3⟩

theorem tree_more {w wr w2 : World} {v' : Value} {g cap n q k : Nat} {z : Nat → Int} {o : Obj} (hn : n ≤ k + 2) (own : OwnI wr w.heap.size g cap n z) (grows : Grows z n) (below : Below w.heap.size w wr) (hq : q < n) (hz : z q < 15)
    (hown : w2.ownsRow w.heap.size 3 1 v' (n + 1) (intsOf (fun i => if i = q then z q + 1 else z i) n ++ [.int .i64 (z q + 1)]))
    (hgrow : ((wr.setCell ⟨g, q, none⟩ (.int .i64 (z q + 1))).alloc o).grownBy w2 (some g)) : Tree w w2 v' (k + 1) := by
  obtain ⟨g', cap', hv, own'⟩ := OwnI.of_append hown
  have hl := own.lt
  have hs := below.size
  refine ⟨g', cap', n + 1, _, hv, by omega, own', grows.split hq hz, ((below.setCell hl.1 _).alloc (by simp [World.setCell]; omega) _).grown hgrow (by simp [World.setCell]; omega) (fun k e => by have := Option.some.inj e; omega)⟩

/-- What stands while the codes are looked at. -/
structure A3 (w wr : World) (g cap n gt : Nat) (z : Nat → Int) : Prop where
  below : Below w.heap.size w wr
  own : OwnI wr w.heap.size g cap n z
  row : wr.rowIs gt 9 n (fun i => .string (codeT z n i))

theorem A3.drew {w wr : World} {g cap n gt : Nat} {z : Nat → Int} (h : A3 w wr g cap n gt z) : A3 w wr.drew g cap n gt z := ⟨h.below.drew, h.own.drew, h.row.drew⟩

theorem A3.drewN {w wr : World} {g cap n gt : Nat} {z : Nat → Int} (h : A3 w wr g cap n gt z) (q : Nat) : A3 w (wr.drewN q) g cap n gt z :=
  ⟨below_drewN h.below q, h.own.of_block rfl, h.row.of_block rfl⟩

theorem codeT_size {z : Nat → Int} {n : Nat} (h : Full z n) {i : Nat} (hi : i < n) : (codeT z n i).size = (z i).toNat := by
  rw [codeT_eq h hi, bitsB_size]

theorem begB_false {a b : ByteArray} (h : ¬ a.toList <+: b.toList) : begB a b = false := by
  rw [ByteArray.toList_eq, ByteArray.toList_eq] at h
  unfold begB
  rw [decide_eq_false_iff_not]
  exact h

/-- Two codes, the one of the lesser symbol first. -/
structure Pair (a b : ByteArray) : Prop where
  s1 : a.size ≤ 15
  s2 : b.size ≤ 15
  n1 : begB a b = false
  n2 : begB b a = false
  o : (a.size < b.size ∧ Op.bytesLess a.toList b.toList = true) ∨ (a.size = b.size ∧ Op.bytesLess a.toList b.toList = true) ∨ (b.size < a.size ∧ Op.bytesLess a.toList b.toList = false ∧ (a.toList == b.toList) = false)

theorem pair_of {z : Nat → Int} {n q k : Nat} (h : Full z n) (hq : q < k) (hk : k < n) : Pair (codeT z n q) (codeT z n k) := by
  have hq' : q < n := by omega
  have r1 := h.rng hq'
  have r2 := h.rng hk
  have e1 := codeT_size h hq'
  have e2 := codeT_size h hk
  by_cases o : (z q).toNat ≤ (z k).toNat
  · have ap := codes_apt h hk hq' (by omega)
    exact ⟨by omega, by omega, begB_false ap.not1, begB_false ap.not2, by rcases Nat.lt_or_eq_of_le o with o | o; exact Or.inl ⟨by omega, ap.less⟩; exact Or.inr (Or.inl ⟨by omega, ap.less⟩)⟩
  · have ap := codes_apt h hq' hk (by omega)
    refine ⟨by omega, by omega, begB_false ap.not2, begB_false ap.not1, Or.inr (Or.inr ⟨by omega, less_asymm _ _ ap.less, ?_⟩)⟩
    rw [beq_eq_false_iff_ne]
    intro e
    exact ap.not1 (by rw [e]; exact List.prefix_refl _)

theorem Grows.first {z : Nat → Int} {n : Nat} (h : Grows z n) (hn : n < 288) (hf : fitB (fun i => if i + 1 = n then 15 else z (i + 1)) n = true) : z 0 = 15 := by
  by_cases h15 : z 0 = 15
  · exact h15
  · exact absurd (h.other hn h15) (by rw [hf]; simp)

theorem begins_no (a b : ByteArray) (w : World) (h : begB a b = false) (ha : a.size ≤ maxLen) (hb : b.size ≤ maxLen) :
    Calls Try.prog 10 #[.string a, .string b] w fun e w' => e = .returned (.bool false) ∧ w' = w := by
  have := begins_any a b w ha hb
  rw [h] at this
  exact this

theorem fnd_no (p : Nat → Bool) (k : Nat) (h : p k = false) : Value.int .i64 (fnd p k : Nat) = .int .i64 (fnd p (k + 1) : Nat) := by
  simp [fnd, h]
theorem fnd_yes (p : Nat → Bool) (k : Nat) (h : p k = true) : Value.int .i64 ((fnd p k : Nat) + 1) = .int .i64 (fnd p (k + 1) : Nat) := by
  simp [fnd, h]

set_option maxRecDepth 100000 in
set_option maxHeartbeats 4000000 in
theorem apart_any (ao : Option Addr) (bits : Int) (w : World) (r : Nat → Int) (lenN capN : Nat)
    (hlen : lenN ≤ 9223372036854775807)
    (hraw : ∀ k, k < lenN → ∃ b off, ao = some ⟨b, off, none⟩ ∧ b < w.heap.size ∧ w.cell? ⟨b, off + k, none⟩ = some (.int .i64 (r k)))
    (hr : ∀ k, k < lenN → -9223372036854775808 ≤ r k ∧ r k ≤ 9223372036854775807) (hb1 : -9223372036854775808 ≤ bits) (hb2 : bits ≤ 9223372036854775807) :
    Calls Try.prog 4 #[.slice ao lenN capN, .int .i64 bits] w fun e w' => e = .returned (.bool true) ∧ Below w.heap.size w w' := by
  go_enter Try.func4, Try.ntmps4
  go_upto_block 0 with fail
  go_cut [5, 6, 7] (fun v _ _ wr => Tree w wr v 60)
  case first =>
    as_aux_lemma =>
      go_wp2_with fail
      go_loopw [5, 6] (fun v i wr => ∃ k : Nat, k ≤ 60 ∧ k ≤ lenN ∧ i = .int .i64 k ∧ Tree w wr v k) (fun _ i _ => 60 - (intOf i).toNat)
      case atStart => exact ⟨0, by omega, by omega, rfl, tree_start w⟩
      case round =>
        obtain ⟨k, hk, hkl, rfl, hrel⟩ := hrel
        obtain ⟨g, cap, n, z, rfl, hn, own, grows, below⟩ := hrel.ex
        by_cases hlt : k < lenN
        · by_cases h60 : k < 60
          · obtain ⟨b, off, hao, hbw, hc⟩ := hraw k hlt
            have hc' : wr.cell? ⟨b, off + k, none⟩ = some (.int .i64 (r k)) := (below.cell (p := ⟨b, off + k, none⟩) hbw).trans hc
            have hrk := hr k hlt
            rw [hao]
            have hnb := grows.two
            have hpb := pickN_bd (r k) n (by omega)
            go_wp2_with fail
            refine (pick_any (r k) n _ hrk.1 hrk.2 (by omega) (by omega)).mono ?_
            rintro e w1 ⟨rfl, rfl⟩
            obtain ⟨q, hq⟩ := Int.eq_ofNat_of_zero_le hpb.1
            rw [hq] at hpb ⊢
            clear hq
            have hqn : q < n := by omega
            have cq := own.cell hqn
            have fq := own.frozen q
            have zq := grows.rng q hqn
            by_cases hz : z q < 15
            · obtain ⟨i0, hi, hz0, hz1, hz2⟩ := info_parts Try.info3
              have O1 := (own.store q (z q + 1)).own
              have hgl := own.lt
              have hbs := below.size
              go_wp2_with (first | (at_builtin; refine wpList_append_own _ rfl (.tmp 49) (.tmp 54) 30 rfl w.heap.size 3 i0 (.int .i64 0) 1 8 Try.underlying30 hi hz0 hz1 hz2 rfl (by decide) _ _ _ rfl (O1.alloc _) ⟨w1.heap.size, 0, none⟩ 1 1 [.int .i64 (z q + 1)] rfl rfl ?c1 ?c2 ?c3 ?c4 ?c5 ?_) | fail)
              case c1 => exact fun j u hj => one_new (by simp [World.setCell]) _ _ j u hj
              case c2 => intro u hu; simp at hu; subst hu; rfl
              case c3 => unfold maxLen; omega
              case c4 => omega
              case c5 => simp [World.setCell]; omega
              · intro v' w2 hown' hgrow _
                have R := tree_more hn own grows below hqn hz hown' hgrow
                clear hown' hgrow O1
                go_wp2
                go_roundw
                case rel => exact ⟨k + 1, by omega, by omega, by go_num, R⟩
                case measure => simp [intOf]; omega
            · go_wp2
              go_roundw
              case rel => exact ⟨k + 1, by omega, by omega, by go_num, tree_same hrel⟩
              case measure => simp [intOf]; omega
          · have R := tree_end hrel hk
            go_wp2_with fail
            go_meet
            exact R
        · have R := tree_end hrel hk
          go_wp2_with fail
          go_meet
          exact R
  case rest =>
    obtain ⟨g, cap, n, z, rfl, hn, own, grows, below⟩ := hcut.ex
    have full := grows.full (by omega)
    clear hcut hraw hr
    go_wp2_with fail
    refine (codes_any g 0 n cap z _ own.ints (by omega)).mono ?_
    rintro e w1 (⟨hf, _⟩ | ⟨hf, gt, rfl, hgt, hrow, hbc⟩)
    · exact absurd full.fit (by rw [hf]; simp)
    have own1 := own.later hbc
    have below1 : Below w.heap.size w w1 := below.trans (hbc.mono below.size)
    have hnn : ((n : Int) != n) = false := by simp
    clear hbc own below hf
    have hpb := pickN_bd bits 32768 (by omega)
    go_wp2_with fail
    refine (pick_any bits 32768 _ hb1 hb2 (by omega) (by omega)).mono ?_
    rintro e w2 ⟨rfl, rfl⟩
    obtain ⟨N, hN⟩ := Int.eq_ofNat_of_zero_le hpb.1
    rw [hN] at hpb ⊢
    clear hN
    have hN : N < 32768 := by omega
    clear hpb
    go_wp2_with fail
    go_loop [10, 11, 12] (fun row nn i => ∃ j : Nat, j ≤ 15 ∧ i = .int .i64 j ∧ nn = .int .i64 (N / 2 ^ j : Nat) ∧ row = .string (bitsB (N % 2 ^ j) j)) (fun _ _ i => 15 - (intOf i).toNat)
    case atStart => exact ⟨0, by omega, rfl, by simp, by simp [bitsB, bitsL]⟩
    case round =>
      obtain ⟨j, hj, rfl, rfl, rfl⟩ := hrel
      have hNj : N / 2 ^ j ≤ N := Nat.div_le_self _ _
      obtain ⟨Nj, hNj'⟩ : ∃ Nj, Nj = N / 2 ^ j := ⟨_, rfl⟩
      rw [← hNj'] at hNj ⊢
      have HN : Hid (Nj = N / 2 ^ j) := hNj'
      clear hNj'
      by_cases hlt : j < 15
      · as_aux_lemma =>
          have hs15 := bitsB_size (N % 2 ^ j) j
          have hs16 : (bitsB (N % 2 ^ j) j).size ≤ 15 := by omega
          clear hs15
          have HR : Hid (_) := row_step N j Nj HN.out
          have HQ : Nj / 2 = N / 2 ^ (j + 1) := by rw [HN.out, Nat.pow_succ, Nat.div_div_eq_div_mul]
          have HQ' : Hid (Nj / 2 = N / 2 ^ (j + 1)) := HQ
          clear HQ
          go_wp2
          go_round
          case rel => exact ⟨j + 1, by omega, by go_num, by rw [← HQ'.out]; go_num, congrArg Value.string HR.out⟩
          case measure => simp [intOf]; omega
      · obtain rfl : j = 15 := by omega
        have hNm : N % 2 ^ 15 = N := Nat.mod_eq_of_lt hN
        rw [hNm]
        clear hNm HN hNj
        have A : A3 w w2 g cap n gt z := ⟨below1, own1, hrow⟩
        clear below1 own1 hrow hgt
        go_wp2_with fail
        go_loopw [13, 14] (fun f i wr => ∃ k : Nat, k ≤ n ∧ i = .int .i64 k ∧ f = .int .i64 (fnd (fun i => begB (codeT z n i) (bitsB N 15)) k : Nat) ∧ A3 w wr g cap n gt z) (fun _ i _ => n - (intOf i).toNat)
        case atStart => exact ⟨0, by omega, rfl, rfl, A⟩
        case round =>
          obtain ⟨k, hk, rfl, rfl, hrel⟩ := hrel
          clear A
          by_cases hlt : k < n
          · have c1 := hrel.own.cell hlt
            have c2 := hrel.row.cell hlt
            have hsz := codeT_size full hlt
            have hrg := full.rng hlt
            have hne : (((codeT z n k).size : Int) != z k) = false := by rw [bne_eq_false_iff_eq]; omega
            have hmx : (codeT z n k).size ≤ 15 := by omega
            have hfl := fnd_le (fun i => begB (codeT z n i) (bitsB N 15)) k
            clear hsz hrg
            go_wp2
            go_big_quiet (fail)
            go_wp2_with fail
            have hrelN := hrel.drewN nq
            generalize wr.drewN nq = wx at hrelN ⊢
            refine (begins_any (codeT z n k) (bitsB N 15) _ (by unfold maxLen; omega) (by rw [bitsB_size]; unfold maxLen; omega)).mono ?_
            rintro e w3 ⟨rfl, rfl⟩
            clear hne c1 c2 hrel
            go_upto_if 107 with fail
            go_cut [13] (fun f wx => f = .int .i64 (fnd (fun i => begB (codeT z n i) (bitsB N 15)) (k + 1) : Nat) ∧ A3 w wx g cap n gt z)
            case first =>
              as_aux_lemma =>
                cases hbg : begB (codeT z n k) (bitsB N 15)
                · go_wp2_with fail
                  go_meet
                  exact ⟨fnd_no _ _ hbg, hrelN⟩
                · go_wp2_with fail
                  go_meet
                  exact ⟨fnd_yes _ _ hbg, hrelN⟩
            case rest =>
              obtain ⟨rfl, hrelC⟩ := hcut
              clear hrelN
              go_wp2_with fail
              go_loopw [15] (fun i wr => ∃ q : Nat, q ≤ k ∧ i = .int .i64 q ∧ A3 w wr g cap n gt z) (fun i _ => k - (intOf i).toNat)
              case atStart => exact ⟨0, by omega, rfl, hrelC⟩
              case round =>
                obtain ⟨q, hq, rfl, hrel⟩ := hrel
                by_cases hqk : q < k
                · as_aux_lemma =>
                    have pr := pair_of full hqk hlt
                    have c1 := hrel.row.cell (i := q) (by omega)
                    have c2 := hrel.row.cell hlt
                    obtain ⟨s1, s2, n1, n2, o⟩ := pr
                    generalize codeT z n q = a at s1 n1 n2 o c1
                    generalize codeT z n k = b at s1 s2 n1 n2 o c1 c2
                    have m1 : a.size ≤ maxLen := by unfold maxLen; omega
                    have m2 : b.size ≤ maxLen := by unfold maxLen; omega
                    have i1 : (q : Int) < (n : Int) := by omega
                    have i2 : (k : Int) < (n : Int) := by omega
                    clear hrelC grows full
                    rcases o with ⟨o1, o2⟩ | ⟨o1, o2⟩ | ⟨o1, o2, o3⟩
                    · as_aux_lemma =>
                        have d1 : (a.size : Int) < (b.size : Int) := by omega
                        have e1 : ((a.size : Int) == (b.size : Int)) = false := by rw [beq_eq_false_iff_ne]; omega
                        have f1 : decide (b.size < a.size) = false := by rw [decide_eq_false_iff_not]; omega
                        clear o1
                        go_wp2
                        refine wp_region_quiet_lit (by kernel_rfl) (lex30_of _ (by kernel_rfl)) ?_
                        iterate 24 (go_big_quiet_step ((go_at_call 10; exact Calls.quiet_of_same (begins_no _ _ _ (by first | exact n1 | exact n2) (by first | exact m1 | exact m2) (by first | exact m2 | exact m1)))))
                        as_aux_lemma =>
                          iterate 24 (go_big_quiet_step ((go_at_call 10; exact Calls.quiet_of_same (begins_no _ _ _ (by first | exact n1 | exact n2) (by first | exact m1 | exact m2) (by first | exact m2 | exact m1)))))
                          as_aux_lemma =>
                            iterate 24 (go_big_quiet_step ((go_at_call 10; exact Calls.quiet_of_same (begins_no _ _ _ (by first | exact n1 | exact n2) (by first | exact m1 | exact m2) (by first | exact m2 | exact m1)))))
                            as_aux_lemma =>
                              repeat (go_big_quiet_step ((go_at_call 10; exact Calls.quiet_of_same (begins_no _ _ _ (by first | exact n1 | exact n2) (by first | exact m1 | exact m2) (by first | exact m2 | exact m1)))))
                              refine wpQuiet_nil ?_
                              intro _ hw'
                              obtain ⟨nq, hw''⟩ := hw'
                              subst hw''
                              go_wp2
                              go_roundw
                              case rel => exact ⟨q + 1, by omega, by go_num, hrel.drewN _⟩
                              case measure => simp [intOf]; omega
                    · as_aux_lemma =>
                        have d1 : decide (a.size < b.size) = false := by rw [decide_eq_false_iff_not]; omega
                        have e1 : ((a.size : Int) == (b.size : Int)) = true := by rw [beq_iff_eq]; omega
                        have f1 : decide (b.size < a.size) = false := by rw [decide_eq_false_iff_not]; omega
                        clear o1
                        go_wp2
                        refine wp_region_quiet_lit (by kernel_rfl) (lex30_of _ (by kernel_rfl)) ?_
                        iterate 24 (go_big_quiet_step ((go_at_call 10; exact Calls.quiet_of_same (begins_no _ _ _ (by first | exact n1 | exact n2) (by first | exact m1 | exact m2) (by first | exact m2 | exact m1)))))
                        as_aux_lemma =>
                          iterate 24 (go_big_quiet_step ((go_at_call 10; exact Calls.quiet_of_same (begins_no _ _ _ (by first | exact n1 | exact n2) (by first | exact m1 | exact m2) (by first | exact m2 | exact m1)))))
                          as_aux_lemma =>
                            iterate 24 (go_big_quiet_step ((go_at_call 10; exact Calls.quiet_of_same (begins_no _ _ _ (by first | exact n1 | exact n2) (by first | exact m1 | exact m2) (by first | exact m2 | exact m1)))))
                            as_aux_lemma =>
                              repeat (go_big_quiet_step ((go_at_call 10; exact Calls.quiet_of_same (begins_no _ _ _ (by first | exact n1 | exact n2) (by first | exact m1 | exact m2) (by first | exact m2 | exact m1)))))
                              refine wpQuiet_nil ?_
                              intro _ hw'
                              obtain ⟨nq, hw''⟩ := hw'
                              subst hw''
                              go_wp2
                              go_roundw
                              case rel => exact ⟨q + 1, by omega, by go_num, hrel.drewN _⟩
                              case measure => simp [intOf]; omega
                    · as_aux_lemma =>
                        have d1 : decide (a.size < b.size) = false := by rw [decide_eq_false_iff_not]; omega
                        have e1 : ((a.size : Int) == (b.size : Int)) = false := by rw [beq_eq_false_iff_ne]; omega
                        have f1 : (b.size : Int) < (a.size : Int) := by omega
                        clear o1
                        go_wp2
                        refine wp_region_quiet_lit (by kernel_rfl) (lex30_of _ (by kernel_rfl)) ?_
                        iterate 24 (go_big_quiet_step ((go_at_call 10; exact Calls.quiet_of_same (begins_no _ _ _ (by first | exact n1 | exact n2) (by first | exact m1 | exact m2) (by first | exact m2 | exact m1)))))
                        as_aux_lemma =>
                          iterate 24 (go_big_quiet_step ((go_at_call 10; exact Calls.quiet_of_same (begins_no _ _ _ (by first | exact n1 | exact n2) (by first | exact m1 | exact m2) (by first | exact m2 | exact m1)))))
                          as_aux_lemma =>
                            iterate 24 (go_big_quiet_step ((go_at_call 10; exact Calls.quiet_of_same (begins_no _ _ _ (by first | exact n1 | exact n2) (by first | exact m1 | exact m2) (by first | exact m2 | exact m1)))))
                            as_aux_lemma =>
                              repeat (go_big_quiet_step ((go_at_call 10; exact Calls.quiet_of_same (begins_no _ _ _ (by first | exact n1 | exact n2) (by first | exact m1 | exact m2) (by first | exact m2 | exact m1)))))
                              refine wpQuiet_nil ?_
                              intro _ hw'
                              obtain ⟨nq, hw''⟩ := hw'
                              subst hw''
                              go_wp2
                              go_roundw
                              case rel => exact ⟨q + 1, by omega, by go_num, hrel.drewN _⟩
                              case measure => simp [intOf]; omega
                · go_wp2
                  go_roundw
                  case rel => exact ⟨k + 1, by omega, by go_num, rfl, hrel⟩
                  case measure => simp [intOf]; omega
          · as_aux_lemma =>
              obtain rfl : k = n := by omega
              have h1 := one_begins full N hN
              rw [h1]
              clear h1
              obtain ⟨i0, hi, hz0, hz1, hz2⟩ := info_parts Try.info3
              have O1 := hrel.own.own
              have hgl := hrel.own.lt
              have hbs := hrel.below.size
              go_wp2_with (first | (at_builtin; refine wpList_append_own _ rfl (.tmp 207) (.tmp 208) 30 rfl w.heap.size 3 i0 (.int .i64 0) 1 8 Try.underlying30 hi hz0 hz1 hz2 rfl (by decide) _ _ _ rfl (O1.alloc _) ⟨wr.heap.size, 0, none⟩ 1 1 [.int .i64 15] rfl rfl ?c1 ?c2 ?c3 ?c4 ?c5 ?_) | fail)
              case c1 => exact fun j u hj => one_new rfl _ _ j u hj
              case c2 => intro u hu; simp at hu; subst hu; rfl
              case c3 => unfold maxLen; omega
              case c4 => omega
              case c5 => simp; omega
              · intro v' w5 hown' hgrow _
                obtain ⟨g', cap', hv, own'⟩ := OwnI.of_append hown'
                rw [hv]
                have hcap := own'.leCap
                have below5 : Below w.heap.size w w5 := (hrel.below.alloc hbs _).grown hgrow (by simp; omega) (fun k' e => by have h : g = k' := Option.some.inj e; omega)
                clear hown' hgrow O1 hrel hv
                go_wp2_with fail
                refine (codes_any g' 0 (k + 1) cap' _ _ own'.ints (by omega)).mono ?_
                rintro e w6 (⟨_, rfl, hb6⟩ | ⟨hf, _⟩)
                · have own6 := own'.later hb6
                  have below6 : Below w.heap.size w w6 := below5.trans (hb6.mono below5.size)
                  clear own' hb6 below5
                  have hc1 : ¬ cap' = 1 := by have := grows.two; omega
                  go_wp2_with fail
                  refine (codes_any g' 1 k (cap' - 1) _ _ own6.tail (by omega)).mono ?_
                  rintro e w7 (⟨_, rfl, hb7⟩ | ⟨hf, gg, rfl, _, _, hb7⟩)
                  · have below7 : Below w.heap.size w w7 := below6.trans (hb7.mono below6.size)
                    clear hb7 below6 own6
                    go_wp2
                    go_ret
                    exact ⟨rfl, below7⟩
                  · have below7 : Below w.heap.size w w7 := below6.trans (hb7.mono below6.size)
                    have z0 := grows.first (by omega) hf
                    have c0 : w7.cell? ⟨g', 0, none⟩ = some (.int .i64 15) := by
                      have h := (own6.later hb7).cell (i := 0) (by omega)
                      rw [if_neg (by have := grows.two; omega), z0] at h
                      exact h
                    clear hb7 below6 own6 hf z0
                    go_wp2
                    go_ret
                    exact ⟨rfl, below7⟩
                · exact absurd (grows.more (by omega)) (by rw [hf]; simp)

end Go.Proofs.Ytecddphahiadlaa
