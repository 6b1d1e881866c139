/- Portions: whatever text, number and bytes come in, it returns true; the card, tied. -/
import Derived.Test.YtecddphahiadlaaDoorCards
import Derived.Test.YtecddphahiadlaaDoorTie
import Derived.Test.YtecddphahiadlaaDoorCPLaw
import Derived.WalkKit
import Derived.ProofKit
import Derived.OpenShut
import Derived.ShutString
import Derived.ChangeOld
import Derived.Below
import Derived.SizedLaws
import Derived.Deep.DeepHandedRow
import Derived.Lib.LaidTab
import Derived.LaidSub
import Derived.Lay
namespace Go.Proofs.YtecddphahiadlaaDoor
open Go.ChangeShapes Go.WideShapes Go.ChangeAt Go.RowKit
open Go.ChangeMaps (open_string shut_string)

theorem ownKnobP : ownKnob Tryd.prog.godebug = none := by kernel_rfl
theorem laidOutP : laidOutB Tryd.prog = true := by kernel_rfl
theorem gOrdP : Tryd.prog.globalNamed "rill/stream.order" = some 1 := by kernel_rfl
theorem gOrdTypeP : (Tryd.prog.globals[1]?).map (·.type) = some 173 := by kernel_rfl
theorem cellsOrdP : Tryd.prog.cellsOf 173 = 19 := by kernel_rfl
theorem cellsIntP : Tryd.prog.cellsOf 3 = 1 := by kernel_rfl

def ordIP : List Int := [16, 17, 18, 0, 8, 7, 9, 6, 10, 5, 11, 4, 12, 3, 13, 2, 14, 1, 15]
theorem ordI_atP : ∀ i, i < 19 → ordIP.getD i 0 = (ordN i : Nat) := by decide

/-- What the row's list gives: the table of the order lies in memory. -/
theorem ord_of_laidP {W : World} (h : laidMetH Tryd.prog Rows.portionsRow.laid W) : OrdIn W 1 := by
  have h2 := h.filter (fun x => x.1 == "rill/stream.order")
  have t : Lib.TabIs Tryd.prog W "rill/stream.order" .i64 ordIP := Lib.tabIs_of_head (rest := []) gOrdP gOrdTypeP Tryd.underlying173 Tryd.underlying3 cellsIntP cellsOrdP h2
  have c : ∀ i, i < 19 → W.cell? ⟨1, i, none⟩ = some (.int .i64 (ordN i : Nat)) := fun i hi => by
    rw [t.cell gOrdP i hi, ordI_atP i hi]
  exact ⟨c, block_lt_of_cell (c 0 (by omega))⟩

set_option maxRecDepth 4000 in
theorem portions_contract (H : Type) (enc : TypeId × Value → H) (W : World) (base : Nat) (args : Array Value) (ds gs : List (DataW H)) (before : List MemPlace)
    (hval : ∀ (j : Nat) t v, Tryd.f6.params[j]? = some t → args[j]? = some v → Value.okWide Tryd.prog W .any base t v)
    (hW : DataW.Whole enc Tryd.prog Tryd.f6.params.toList Rows.portionsSpec.vars false W args.toList ds gs before)
    (hz : (DataW.weightsEach Tryd.prog (Tryd.f6.params.toList ++ Rows.portionsSpec.plain.varTypes Tryd.prog) (ds ++ gs)).all (· ≤ reachBytes) = true)
    (hL : laidMetH Tryd.prog Rows.portionsRow.laid W) :
    Calls Tryd.prog 6 args W fun e W' => ∃ v, e = .returned v ∧ Rows.portionsSpec.post enc Tryd.prog Tryd.f6 false true false false W args v W' := by
  have hW' := hW
  obtain ⟨p, q, hA0, hV, rfl, hfz, hnd⟩ := hW
  have hA : DataW.TrodAll enc Tryd.prog W 0 (fun _ => true) true Tryd.f6.params.toList args.toList ds p := hA0
  rw [Tryd.params6] at hA hval
  obtain ⟨v0, vs0, d0, ds0, p0, q0, hargs, rfl, rfl, h0, r0⟩ := trodAll_cons hA
  obtain ⟨v1, vs1, d1, ds1, p1, q1, rfl, rfl, rfl, h1, r1⟩ := trodAll_cons r0
  obtain ⟨v2, vs2, d2, ds2, p2, q2, rfl, rfl, rfl, h2, r2⟩ := trodAll_cons r1
  obtain ⟨rfl, rfl, rfl⟩ := trodAll_nil r2
  obtain rfl : args = #[v0, v1, v2] := by cases args; simp_all
  obtain ⟨rfl, rfl⟩ := trodVars_none hV
  obtain ⟨a, rfl, rfl, rfl, wa⟩ := open_int Tryd.underlying3 (hval 0 3 v0 rfl rfl) h0
  obtain ⟨t, rfl, rfl, rfl, ht⟩ := open_string Tryd.underlying9 (hval 1 9 v1 rfl rfl) h1
  obtain ⟨b, rfl, rfl, rfl, hbm⟩ := open_string Tryd.underlying9 (hval 2 9 v2 rfl rfl) h2
  have hs1 : t.data.toList.length ≤ reachBytes := sized_string (j := 1) (t := 9) hz rfl rfl
  have hs : b.data.toList.length ≤ reachBytes := sized_string (j := 2) (t := 9) hz rfl rfl
  have hs2 : b.size ≤ 140737488355328 := by
    have h1 := reachBytes_lt
    have h2 : b.data.toList.length = b.size := rfl
    omega
  have hs3 : t.size ≤ 140737488355328 := by
    have h1 := reachBytes_lt
    have h2 : t.data.toList.length = t.size := rfl
    omega
  clear hA0
  have ho := ord_of_laidP hL
  have hbd := bounds_i64 wa
  refine (portions_any a t b W hbd.1 hbd.2 hs3 hs2 ho.lt ho).mono fun e W' ⟨he, bel⟩ => ?_
  subst he
  exact ⟨_, rfl, _, _, _, [], _, [], hW', trodAll_mk1 (shut_bool Tryd.underlying4 _), (trodAll_cons_mk (shut_int Tryd.underlying3 wa) (trodAll_cons_mk (shut_string Tryd.underlying9 ht) (trodAll_cons_mk (shut_string Tryd.underlying9 hbm) trodAll_mk0))), rfl, bel.frame _, fun h => by cases h⟩

/-- A world for the witness: the variables as their initialisers lay them. -/
noncomputable def laidWorldP (os : Os) : World := World.laidAll Tryd.prog os Rows.portionsRow.laid
theorem portions_laid_met (os : Os) : laidMet Tryd.prog Rows.portionsRow.laid ((laidWorldP os).forCall (fun _ _ => 0) ⟨#[], #[.int .i64 0, .string ⟨#[]⟩, .string ⟨#[]⟩], []⟩).memory :=
  laidMet_laidAll _ (by kernel_rfl) (by kernel_rfl)
theorem portions_reads (os : Os) {H : Type} (enc : TypeId × Value → H) : ∃ places, DataW.whole enc Tryd.prog ((laidWorldP os).forCall (fun _ _ => 0) ⟨#[], #[.int .i64 0, .string ⟨#[]⟩, .string ⟨#[]⟩], []⟩).memory Tryd.f6.params.toList Rows.portionsSpec.vars false #[Value.int .i64 0, .string ⟨#[]⟩, .string ⟨#[]⟩].toList 8 = some ([.lit (.int .i64 0), .lit (.string []), .lit (.string [])], [], places) :=
  ⟨[], by kernel_rfl⟩

set_option maxRecDepth 100000 in
theorem portions_lifted (os : Os) (started : os.Started) (H : Type) (enc : TypeId × Value → H) (F : Stop.Interp) :
    ReturnsInHanded {} Tryd.checked os 6 .any ((OpenSpec.ofChange Rows.portionsSpec).preRow enc Tryd.prog Tryd.f6 Rows.portionsRow.domain false Rows.portionsRow.laid) (((OpenSpec.ofChange Rows.portionsSpec).at F).post enc Tryd.prog Tryd.f6 false true false false) := by
  obtain ⟨places, hx⟩ := portions_reads os enc
  refine returnsInHanded_of_row (C := Tryd.checked) (s := OpenSpec.ofChange Rows.portionsSpec) ownKnobP started (by kernel_rfl) Tryd.func6
    (witness_row_at (enc := enc) (C := Tryd.checked) false (laidWorldP os) #[.int .i64 0, .string ⟨#[]⟩, .string ⟨#[]⟩] (World.laidAll_os _ _ _) (by kernel_rfl) (by kernel_rfl) (by kernel_rfl)
      (OpenSpec.preRow_of_cond 8 hx (by kernel_rfl) (fun k hk => by cases hk) (by kernel_rfl) (portions_laid_met os))) ?_
  intro W base args ds gs before hval hW _ _ hz hL _ _
  exact portions_contract H enc W base args ds gs before hval hW hz hL

theorem portions_said : Rows.PortionsSaid :=
  OpenClaim.holds_of_cond 6 Tryd.f6 rfl rfl rfl rfl rfl rfl rfl ⟨rfl, rfl, rfl, rfl, rfl⟩ rfl rfl rfl rfl rfl (by kernel_rfl) Tryd.func6 (by kernel_rfl)
    (of_decide_eq_true (by kernel_rfl)) (by unfold Func.isWrapper; first | (rw [if_pos (by decide +kernel)]; kernel_rfl) | (rw [if_neg (by decide +kernel)]; exact ⟨rfl, rfl⟩))
    (fun os started H enc _ F => by rw [OpenClaim.pre_eq_preRow]; exact portions_lifted os started H enc F)

/-- No parameter wants a stand-in. -/
theorem portions_plain (f : FuncId) (fn : Func) (hf : Tryd.pinned.checked.prog.funcNamed "rill/rillkeep.Portions" = some f) (hfn : Tryd.pinned.checked.prog.funcs[f]? = some fn) :
    true = Tryd.pinned.checked.prog.looks [] ∧ ∀ (j : Nat) t, fn.params[j]? = some t → Tryd.pinned.checked.prog.wantsStandIn t = false := by
  obtain rfl : f = 6 := Option.some.inj ((show Tryd.prog.funcNamed "rill/rillkeep.Portions" = some 6 by kernel_rfl).symm.trans hf) |>.symm
  obtain rfl : fn = Tryd.f6 := (Option.some.inj (Tryd.func6.symm.trans hfn)).symm
  refine ⟨by kernel_rfl, fun j t ht => ?_⟩
  rw [Tryd.params6] at ht
  have hm : t = 3 ∨ t = 9 ∨ t = 9 := by simpa using Array.mem_of_getElem? ht
  rcases hm with rfl | rfl | rfl
  · exact (show Tryd.prog.wantsStandIn 3 = false by kernel_rfl)
  · exact (show Tryd.prog.wantsStandIn 9 = false by kernel_rfl)
  · exact (show Tryd.prog.wantsStandIn 9 = false by kernel_rfl)

/-- ████ THE CARD ████ -/
theorem portions_holds : Rows.PortionsCardSaid :=
  Claim7.holds_tied_plain_at .later [] _ _ _ _ portions_said (fun _ h => by cases h) (by kernel_rfl) (fun _ h => by cases h) portions_row_tie rfl ⟨rfl, rfl⟩ (by kernel_rfl) rfl portions_plain (by kernel_rfl)
#print axioms portions_holds
end Go.Proofs.YtecddphahiadlaaDoor
