/- Coded: whatever lists of lengths come in, of bulk at most 1048576 together, it returns true, and they read as they did. -/
import Derived.Test.YtecddphahiadlaaRows
import Derived.Test.YtecddphahiadlaaCoded
import Derived.ProofKit
import Derived.OpenShut
import Derived.ShutString
import Derived.ChangeOld
import Derived.Below
import Derived.JoinedCond
import Derived.Deep.Matrix
namespace Go.Proofs.Ytecddphahiadlaa
open Go.ChangeShapes Go.WideShapes Go.ChangeAt Go.RowKit
open Go.Deep

theorem coded_own : ownKnob Try.prog.godebug = none := by kernel_rfl
theorem coded_laidOut : laidOutB Try.prog = true := by kernel_rfl

theorem bulk_one {H : Type} (d : DataW H) : 1 ≤ Rows.uptoBulk d := by
  cases d with
  | lit l => cases l <;> simp [Rows.uptoBulk]
  | nil => simp [Rows.uptoBulk]
  | ptr d => simp [Rows.uptoBulk]
  | slice elems spare => simp [Rows.uptoBulk]
  | agg parts => simp [Rows.uptoBulk]
  | iface t d => simp [Rows.uptoBulk]
  | map entries => simp [Rows.uptoBulk]
  | held h => simp [Rows.uptoBulk]

theorem bulk_part {H : Type} {d : DataW H} {l : List (DataW H)} (h : d ∈ l) : Rows.uptoBulk d ≤ Rows.uptoBulkAll l := by
  induction l with
  | nil => cases h
  | cons x r ih =>
    simp only [Rows.uptoBulkAll]
    cases List.mem_cons.1 h with
    | inl e => subst e; omega
    | inr e => have := ih e; omega

theorem bulk_length {H : Type} (l : List (DataW H)) : l.length ≤ Rows.uptoBulkAll l := by
  induction l with
  | nil => simp [Rows.uptoBulkAll]
  | cons x r ih => have := bulk_one x; simp only [Rows.uptoBulkAll, List.length_cons]; omega

theorem bulk_elems {H : Type} (elems spare : List (DataW H)) : Rows.uptoBulkAll elems + 1 ≤ Rows.uptoBulk (.slice elems spare) := by
  simp only [Rows.uptoBulk]
  omega

/-- A cell's address is plain. -/
theorem plain_addr {w : World} {a : Addr} {v : Value} (h : w.cell? (a.add 0) = some v) : ∃ b off, a = ⟨b, off, none⟩ := by
  obtain ⟨b, off, spot⟩ := a
  have hspot : spot = none := by simpa [Addr.add] using World.cell?_spot h
  subst hspot
  exact ⟨b, off, rfl⟩

set_option maxRecDepth 4000 in
theorem coded_contract (H : Type) (enc : TypeId × Value → H) (W : World) (base : Nat) (args : Array Value) (ds gs : List (DataW H)) (before : List MemPlace)
    (hval : ∀ (j : Nat) t v, Try.f3.params[j]? = some t → args[j]? = some v → Value.okWide Try.prog W .any base t v)
    (hW : DataW.Whole enc Try.prog Try.f3.params.toList Rows.codedSpec.vars false W args.toList ds gs before) (hk : Rows.uptoSmall H (ds ++ gs) = true) :
    Calls Try.prog 3 args W fun e W' => ∃ v, e = .returned v ∧ Rows.codedSpec.post enc Try.prog Try.f3 false true false false W args v W' := by
  have hW' := hW
  obtain ⟨p, q, hA0, hV, rfl, hfz, hnd⟩ := hW
  have hA : DataW.TrodAll enc Try.prog W 0 (fun _ => true) true Try.f3.params.toList args.toList ds p := hA0
  rw [Try.params3] at hA hval
  obtain ⟨v0, vs0, d0, ds0, p0, q0, hargs, rfl, rfl, h0, r0⟩ := trodAll_cons hA
  obtain ⟨rfl, rfl, rfl⟩ := trodAll_nil r0
  obtain rfl : args = #[v0] := by cases args; simp_all
  obtain ⟨rfl, rfl⟩ := trodVars_none hV
  obtain ⟨a0, len0, cap0, rfl⟩ := okWide_slice Try.underlying22 (hval 0 22 v0 rfl rfl)
  have k0 := h0
  have lt0 : ∀ x ∈ p0, x.block < W.heap.size := by obtain ⟨m, hm⟩ := k0; exact DataW.trod_lt m _ _ _ hm
  have hb : Rows.uptoBulkAll [d0] ≤ 1048576 := by
    have := of_decide_eq_true hk
    simpa using this
  obtain ⟨A, n, cp, Z, hl, hlen⟩ : ∃ A n cp Z, ListsAt W a0 len0 A n cp Z ∧ len0 ≤ 1048576 := by
    obtain ⟨fuel, hf⟩ := h0
    rcases open_int_rows Try.underlying22 Try.underlying30 Try.underlying3 (by kernel_rfl) (by kernel_rfl) hf with ⟨hcs, _⟩ | ⟨x, len, cap, A, L, C, Z, hcs, _, hlc, hcm, hx, hcell⟩
    · simp [Value.cells] at hcs
      obtain ⟨rfl, rfl, rfl⟩ := hcs
      exact ⟨fun _ => none, fun _ => 0, fun _ => 0, fun _ _ => 0, ⟨fun i hi => absurd hi (by omega), fun i hi => absurd hi (by omega), fun i hi => absurd hi (by omega)⟩, by omega⟩
    · simp [Value.cells] at hcs
      obtain ⟨rfl, rfl, rfl⟩ := hcs
      simp only [Prod.mk.injEq] at hx
      rw [hx.1] at hb
      simp only [Rows.uptoBulkAll] at hb
      have hel := bulk_elems ((List.range len0).map fun r => intRow (H := H) .i64 (A r) (L r) (Z r)) ((List.range (cap0 - len0)).map fun j => intRow .i64 (A (len0 + j)) (L (len0 + j)) (Z (len0 + j)))
      have hln := bulk_length ((List.range len0).map fun r => intRow (H := H) .i64 (A r) (L r) (Z r))
      simp only [List.length_map, List.length_range] at hln
      refine ⟨A, L, C, fun r i => (Z r).getD i 0, ⟨fun i hi => ?_, fun i hi => ?_, fun i hi => ?_⟩, by omega⟩
      · have hc := (hcell i (by omega)).1
        obtain ⟨b, off, rfl⟩ := plain_addr (hcell 0 (by omega)).1
        rw [addr_plain] at hc
        exact ⟨b, off, rfl, block_lt_of_cell hc, hc⟩
      · obtain ⟨_, h1, _, _, _, hno, hyes⟩ := hcell i (by omega)
        by_cases h0 : L i = 0
        · exact Or.inl h0
        · cases hA : A i with
          | none => have := hno hA; omega
          | some a' =>
            have hc := (hyes a' hA).2
            have hc0 := hc 0 (by omega)
            obtain ⟨b, off, rfl⟩ := plain_addr hc0
            rw [addr_plain] at hc0
            refine Or.inr ⟨b, off, rfl, ⟨fun j hj => ?_, block_lt_of_cell hc0⟩⟩
            have := hc j (by omega)
            rwa [addr_plain] at this
      · obtain ⟨_, h1, _, hzl, _, hno, _⟩ := hcell i (by omega)
        cases hA : A i with
        | none => have := hno hA; omega
        | some a' =>
          have hm : intRow (H := H) .i64 (A i) (L i) (Z i) ∈ (List.range len0).map fun r => intRow (H := H) .i64 (A r) (L r) (Z r) := List.mem_map.2 ⟨i, List.mem_range.2 hi, rfl⟩
          have hp := bulk_part hm
          have e2 : intRow (H := H) .i64 (A i) (L i) (Z i) = .slice (lits .i64 ((Z i).take (L i))) (lits .i64 ((Z i).drop (L i))) := by rw [hA]; rfl
          rw [e2] at hp
          have h2 := bulk_elems (H := H) (lits .i64 ((Z i).take (L i))) (lits .i64 ((Z i).drop (L i)))
          have h3 := bulk_length (H := H) (lits .i64 ((Z i).take (L i)))
          have h5 : (lits (H := H) .i64 ((Z i).take (L i))).length = min (L i) (Z i).length := by simp [lits]
          rw [h5] at h3
          have h4 : min (L i) (Z i).length = L i := by omega
          rw [h4] at h3
          omega
  clear hA0
  refine (coded_any a0 len0 cap0 W A n cp Z hl hlen).mono fun e W' ⟨he, bel⟩ => ?_
  subst he
  exact ⟨_, rfl, _, _, _, [], _, [], hW', trodAll_mk1 (shut_bool Try.underlying4 _), (trodAll_cons_mk (Below.trod coded_laidOut (by kernel_rfl) (of_decide_eq_true (by kernel_rfl)) k0 bel lt0) trodAll_mk0), rfl, bel.frame _, fun h => by cases h⟩

set_option maxRecDepth 100000 in
theorem coded_lifted (os : Os) (started : os.Started) (H : Type) (enc : TypeId × Value → H) (F : Stop.Interp) :
    ReturnsInHanded {} Try.checked os 3 .any ((Rows.OpenSpec.upto Rows.codedSpec).pre6 enc Try.prog Try.f3 Rows.codedUptoRow.domain false) (((Rows.OpenSpec.upto Rows.codedSpec).at F).post enc Try.prog Try.f3 false true false false) := by
  refine returnsInHanded_of_cond (C := Try.checked) (s := Rows.OpenSpec.upto Rows.codedSpec) (k := Rows.uptoSmall) rfl coded_own started (by kernel_rfl) Try.func3
    (OpenSpec.witness (enc := enc) (C := Try.checked) (s := Rows.OpenSpec.upto Rows.codedSpec) (k := Rows.uptoSmall) rfl false ⟨#[], #[.slice none 0 0], []⟩ 8 (by kernel_rfl) (by kernel_rfl) (by kernel_rfl)
      (x := ([.nil], [], [])) (by kernel_rfl) rfl (by kernel_rfl)) ?_
  intro W base args ds gs before hval hW _ hk _
  exact coded_contract H enc W base args ds gs before hval hW hk

theorem coded_over : Rows.codedUptoRow.holds Try.pinned (Rows.OpenSpec.upto Rows.codedSpec) :=
  OpenClaim.holds_of_cond 3 Try.f3 rfl rfl rfl rfl rfl rfl rfl ⟨rfl, rfl, rfl, rfl, rfl⟩ rfl rfl rfl rfl rfl (by kernel_rfl) Try.func3 (by kernel_rfl)
    (of_decide_eq_true (by kernel_rfl)) (by unfold Func.isWrapper; first | (rw [if_pos (by decide +kernel)]; kernel_rfl) | (rw [if_neg (by decide +kernel)]; exact ⟨rfl, rfl⟩))
    (fun os started H enc _ F => coded_lifted os started H enc F)

theorem coded_upto_holds : Rows.CodedUptoSaid := coded_over
#print axioms coded_upto_holds
end Go.Proofs.Ytecddphahiadlaa
