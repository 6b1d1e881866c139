/- Flows: what holds between two steps of a script. -/
import Derived.Test.YtecddphahiadlaaGreatDoorCLinA
namespace Go.Proofs.YtecddphahiadlaaGreatDoor
open Go.RowKit

theorem LnI.later {N : Nat} {k : Lk} {Q : Nat → List UInt8} {tk : Nat} {L : List UInt8} {n : Nat} {closed : Bool} {A : ByteArray} {R : Nat → List UInt8} {X : ByteArray} {P : Nat → List UInt8} {j j' : Nat} (h : LnI N k Q tk L n closed A R X P j) (hj : j ≤ j') : LnI N k Q tk L n closed A R X P j' :=
  ⟨h.total, h.most, h.sent, h.few, h.wt, h.taken, h.read, h.wire, h.all, h.parts, h.full, h.shut, by have := h.long; omega, h.nn⟩

/-- A line that is open, behind j steps; so many bytes wait on a channel at most. -/
def FlI (v : Nat) (w0 w : World) (gl N j : Nat) : Prop :=
  ∃ gw gr k Q tk wd L n A R X P, MLn w0 w gl gw gr N k Q tk wd L n false A R ∧ LnI N k Q tk L n false A R X P j ∧ wd ≤ 2 ∧ ∀ c, c < N → (Q c).length ≤ v

section
variable {v : Nat} {w0 w : World} {gl N j : Nat}

theorem FlI.later (h : FlI v w0 w gl N j) {j' : Nat} (hj : j ≤ j') : FlI 200 w0 w gl N j' := by
  obtain ⟨gw, gr, k, Q, tk, wd, L, n, A, R, X, P, hm, hI, hw, hq⟩ := h
  exact ⟨gw, gr, k, Q, tk, wd, L, n, A, R, X, P, hm, hI.later hj, hw, hI.few⟩
theorem FlI.below (h : FlI v w0 w gl N j) : Below w0.heap.size w0 w := by
  obtain ⟨gw, gr, k, Q, tk, wd, L, n, A, R, X, P, hm, hI, hw, hq⟩ := h
  exact hm.below

theorem FlI.alloc (h : FlI v w0 w gl N j) (o : Obj) : FlI v w0 (w.alloc o) gl N j ∧ gl < w.heap.size := by
  obtain ⟨gw, gr, k, Q, tk, wd, L, n, A, R, X, P, ⟨Ww, Wr, h1, h2, h3⟩, hI, hw, hq⟩ := h
  have hb : Below w.heap.size w (w.alloc o) := (Below.refl _ _).alloc (Nat.le_refl _) o
  exact ⟨⟨gw, gr, k, Q, tk, wd, L, n, A, R, X, P, ⟨Ww, Wr, h1.frame (V := fun _ => False) (Kw.below hb) (fun _ _ q => q), h2, h3.trans (hb.mono h3.size)⟩, hI, hw, hq⟩, h1.row.lt⟩

theorem fl_new {N : Nat} {c : Int} (h1 : -9223372036854775808 ≤ c) (h2 : c ≤ 9223372036854775807) (hN : (N : Int) = 1 + pickN c 8) (w : World) :
    Calls Tryz.prog 8 #[.int .i64 c] w fun e w' => ∃ gl, e = .returned (.pointer (some ⟨gl, 0, none⟩)) ∧ FlI 200 w w' gl N 0 := by
  refine (mln_new h1 h2 hN w).mono ?_
  rintro e w' ⟨gl, gw, gr, he, hm⟩
  exact ⟨gl, he, gw, gr, _, _, _, _, _, _, _, _, _, _, hm, lnI_new N, by omega, fun _ _ => by simp⟩

theorem FlI.writes (h : FlI v w0 w gl N j) (hN1 : 1 ≤ N) (ch : Int) (S : ByteArray) (h1 : -9223372036854775808 ≤ ch) (h2 : ch ≤ 9223372036854775807) (hS : S.size ≤ 140737488400000) :
    Calls Tryz.prog 17 #[.pointer (some ⟨gl, 0, none⟩), .int .i64 ch, .string S] w fun e w' => e = .returned (.bool true) ∧ FlI 200 w0 w' gl N (j + 1) := by
  obtain ⟨gw, gr, k, Q, tk, wd, L, n, A, R, X, P, hm, hI, hw, hq⟩ := h
  have hbd := pickN_bd ch N (by omega)
  obtain ⟨c, hc⟩ := Int.eq_ofNat_of_zero_le hbd.1
  have hcN : c < N := by omega
  have hwt := hI.wt c hcN
  have ht := hI.most
  refine (hm.writes ch c S _ h1 h2 hN1 hc.symm rfl (hI.few c hcN) hI.most hI.total hwt.1 (by omega) (by have := hI.taken_few c hcN; omega) hS).mono ?_
  rintro e w' ⟨he, h3⟩
  have hI3 := (hI.wrote c hcN S _ rfl).later (Nat.le_succ j)
  exact ⟨he, gw, gr, _, _, _, _, _, _, _, _, _, _, h3, hI3, hw, hI3.few⟩

theorem FlI.flush (h : FlI v w0 w gl N j) (hN1 : 1 ≤ N) (hj : j ≤ 2000000) : ∃ gw, w.cell? ⟨gl, 1, none⟩ = some (.pointer (some ⟨gw, 0, none⟩)) ∧
    Calls Tryz.prog 14 #[.pointer (some ⟨gw, 0, none⟩)] w fun e w' => e = .returned (.int .i64 0) ∧ FlI 0 w0 w' gl N (j + 1) := by
  obtain ⟨gw, gr, k, Q, tk, wd, L, n, A, R, X, P, hm, hI, hw, hq⟩ := h
  have h1 := hI.sent
  have h2 := hI.most
  have h3 := hI.nn
  have h4 := hI.size.1
  refine ⟨gw, (hm.cell 1 (by omega)).1, (hm.flush hN1 (by omega) (by omega)).mono ?_⟩
  rintro e w' ⟨T, S, he, hc, ht, hp, hm2⟩
  exact ⟨he, gw, gr, _, _, _, _, _, _, _, _, _, _, hm2, hI.flushed hc ht hp, by omega, fun _ _ => by simp⟩

theorem FlI.tick (h : FlI v w0 w gl N j) (hN1 : 1 ≤ N) (hj : j ≤ 2000000) : ∃ gw, w.cell? ⟨gl, 1, none⟩ = some (.pointer (some ⟨gw, 0, none⟩)) ∧
    Calls Tryz.prog 20 #[.pointer (some ⟨gw, 0, none⟩)] w fun e w' => e = .returned (.tuple #[]) ∧ FlI 200 w0 w' gl N (j + 1) := by
  obtain ⟨gw, gr, k, Q, tk, wd, L, n, A, R, X, P, hm, hI, hw, hq⟩ := h
  have h1 := hI.sent
  have h2 := hI.most
  have h3 := hI.nn
  have h4 := hI.size.1
  refine ⟨gw, (hm.cell 1 (by omega)).1, ?_⟩
  by_cases hs : sumL N Q = 0
  · refine (hm.tickNone hs).mono ?_
    rintro e w' ⟨he, rfl⟩
    exact ⟨he, gw, gr, _, _, _, _, _, _, _, _, _, _, hm, hI.later (Nat.le_succ j), hw, hI.few⟩
  · refine (hm.tick (by omega) hN1 (by omega) (by omega) hw).mono ?_
    rintro e w' ⟨he, ha, hb⟩
    refine ⟨he, ?_⟩
    by_cases hw2 : wd < 2
    · exact ⟨gw, gr, _, _, _, _, _, _, _, _, _, _, ha hw2, hI.later (Nat.le_succ j), by omega, hI.few⟩
    · obtain ⟨T, S, hc, ht, hp, hm2⟩ := hb (by omega)
      exact ⟨gw, gr, _, _, _, _, _, _, _, _, _, _, hm2, hI.flushed hc ht hp, by omega, fun _ _ => by simp⟩

theorem FlI.carry (h : FlI v w0 w gl N j) (hj : j ≤ 2000000) (most : Int) (hm : most ≤ 9223372036854775807) (hm0 : -9223372036854775808 ≤ most) (h0 : 1 < w0.heap.size) (hord : OrdIn w0 1) :
    Calls Tryz.prog 29 #[.pointer (some ⟨gl, 0, none⟩), .int .i64 most] w fun e w' => (∃ x : Nat, e = .returned (.tuple #[.int .i64 (x : Nat), .bool true])) ∧ FlI 200 w0 w' gl N (j + 1) := by
  obtain ⟨gw, gr, k, Q, tk, wd, L, n, A, R, X, P, hM, hI, hw, hq⟩ := h
  have h4 := hI.size.1
  refine (carry_any hM hI (by omega) most hm hm0 h0 hord).mono ?_
  rintro e w' ⟨he, h3⟩
  exact ⟨⟨_, he⟩, gw, gr, _, _, _, _, _, _, _, _, _, _, h3, (hI.carried most.toNat).2.2.later (Nat.le_succ j), hw, hI.few⟩

theorem FlI.reads (h : FlI v w0 w gl N j) (hN1 : 1 ≤ N) (ch : Int) (hch : ch ≤ 9223372036854775807) (hch0 : -9223372036854775808 ≤ ch) (most : Int) (hm : most ≤ 9223372036854775807) (hm0 : -9223372036854775808 ≤ most) :
    Calls Tryz.prog 30 #[.pointer (some ⟨gl, 0, none⟩), .int .i64 ch, .int .i64 most] w fun e w' => e = .returned (.bool true) ∧ FlI 200 w0 w' gl N (j + 1) := by
  obtain ⟨gw, gr, k, Q, tk, wd, L, n, A, R, X, P, hM, hI, hw, hq⟩ := h
  have hbd := pickN_bd ch N (by omega)
  obtain ⟨c, hc⟩ := Int.eq_ofNat_of_zero_le hbd.1
  have hcN : c < N := by omega
  obtain ⟨z, hz⟩ := hM.got
  refine (reads_any hM hI hN1 ch c hch hch0 hc.symm most hm hm0).mono ?_
  rintro e w' ⟨he, h3⟩
  exact ⟨he, gw, gr, _, _, _, _, _, _, _, _, _, _, h3, (hI.readC c most.toNat hcN hz).1.later (Nat.le_succ j), hw, hI.few⟩

theorem FlI.all (h : FlI 0 w0 w gl N j) (hN1 : 1 ≤ N) (hj : j ≤ 2000001) (h0 : 1 < w0.heap.size) (hord : OrdIn w0 1) :
    Calls Tryz.prog 13 #[.pointer (some ⟨gl, 0, none⟩)] w fun e w' => e = .returned (.bool true) ∧ FlI 200 w0 w' gl N j := by
  obtain ⟨gw, gr, k, Q, tk, wd, L, n, A, R, X, P, hM, hI, hw, hq⟩ := h
  have h4 := hI.size.1
  refine (all_any hM hI hN1 (fun c hc => List.eq_nil_of_length_eq_zero (by have := hq c hc; omega)) (by omega) h0 hord).mono ?_
  rintro e w' ⟨he, k', A', R', h3, hI3⟩
  exact ⟨he, gw, gr, _, _, _, _, _, _, _, _, _, _, h3, hI3, hw, hI3.few⟩
end

/-- What is known of the room is being set, up to m. -/
def FlW (v : Nat) (w0 w : World) (gl N j m : Nat) : Prop :=
  ∃ gw gr k Q tk wd L n A R X P, MLn w0 w gl gw gr N { k with waiting := setN v k.waiting m } Q tk wd L n false A R ∧ LnI N k Q tk L n false A R X P j ∧ wd ≤ 2 ∧ ∀ c, c < N → (Q c).length ≤ v

section
variable {v : Nat} {w0 w : World} {gl N j m : Nat}
theorem FlI.setting (h : FlI v w0 w gl N j) : FlW v w0 w gl N j 0 := by
  obtain ⟨gw, gr, k, Q, tk, wd, L, n, A, R, X, P, hM, hI, hw, hq⟩ := h
  exact ⟨gw, gr, k, Q, tk, wd, L, n, A, R, X, P, by rw [setN_zero]; exact hM, hI, hw, hq⟩
theorem FlW.cell (h : FlW v w0 w gl N j m) (hm : m < 8) : (∃ x : Nat, w.cell? ⟨gl, 20 + m, none⟩ = some (.int .i64 (x : Nat))) ∧ w.frozen? ⟨gl, 20 + m, none⟩ = false := by
  obtain ⟨gw, gr, k, Q, tk, wd, L, n, A, R, X, P, hM, hI, hw, hq⟩ := h
  have a1 := hM.cell (20 + m) (by omega)
  rw [(lnCell_at N gw gr _ m hm).2.2] at a1
  exact ⟨⟨_, a1.1⟩, a1.2⟩
theorem FlW.step (h : FlW v w0 w gl N j m) (hm : m < 8) : FlW v w0 (w.setCell ⟨gl, 20 + m, none⟩ (.int .i64 (v : Nat))) gl N j (m + 1) := by
  obtain ⟨gw, gr, k, Q, tk, wd, L, n, A, R, X, P, hM, hI, hw, hq⟩ := h
  exact ⟨gw, gr, k, Q, tk, wd, L, n, A, R, X, P, hM.setOne hm, hI, hw, hq⟩
theorem FlW.set (h : FlW v w0 w gl N j 8) (hv : v ≤ 200) : FlI v w0 w gl N j := by
  obtain ⟨gw, gr, k, Q, tk, wd, L, n, A, R, X, P, hM, hI, hw, hq⟩ := h
  have hN8 := hM.few
  exact ⟨gw, gr, _, Q, tk, wd, L, n, A, R, X, P, hM, hI.waits _ (fun c hc => by
    unfold setN
    rw [if_pos (by omega)]
    exact ⟨hq c hc, hv⟩), hw, hq⟩
end

end Go.Proofs.YtecddphahiadlaaGreatDoor
