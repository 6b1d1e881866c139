/- Channels: whatever number and script come in, of bulk at most 1048576 together, it returns true, and they read as they did; the card, tied. -/
import Derived.Test.YtecddphahiadlaaGreatDoorCards
import Derived.Test.YtecddphahiadlaaGreatDoorTie
import Derived.Test.YtecddphahiadlaaGreatDoorCChaL
import Derived.WalkKit
import Derived.ProofKit
import Derived.OpenShut
import Derived.ShutString
import Derived.ChangeOld
import Derived.Below
import Derived.SizedLaws
import Derived.Deep.DeepHandedRow
import Derived.Lib.LaidTab
import Derived.LaidSub
import Derived.Deep.Matrix
import Derived.Lay
namespace Go.Proofs.YtecddphahiadlaaGreatDoor
open Go.ChangeShapes Go.WideShapes Go.ChangeAt Go.RowKit
open Go.ChangeMaps (open_string shut_string)
open Go.Deep
theorem ownKnobP : ownKnob Tryz.prog.godebug = none := by kernel_rfl
theorem laidOutP : laidOutB Tryz.prog = true := by kernel_rfl
theorem gOrdP : Tryz.prog.globalNamed "rill/stream.order" = some 1 := by kernel_rfl
theorem gOrdTypeP : (Tryz.prog.globals[1]?).map (·.type) = some 208 := by kernel_rfl
theorem cellsOrdP : Tryz.prog.cellsOf 208 = 19 := by kernel_rfl
theorem cellsIntP : Tryz.prog.cellsOf 3 = 1 := by kernel_rfl
def ordIP : List Int := [16, 17, 18, 0, 8, 7, 9, 6, 10, 5, 11, 4, 12, 3, 13, 2, 14, 1, 15]
theorem ordI_atP : ∀ i, i < 19 → ordIP.getD i 0 = (ordN i : Nat) := by decide
/-- What the row's list gives: the table of the order lies in memory. -/
theorem ord_of_laidP {W : World} (h : laidMetH Tryz.prog Rows.channelsRow.laid W) : OrdIn W 1 := by
 have h2 := h.filter (fun x => x.1 == "rill/stream.order")
 have t : Lib.TabIs Tryz.prog W "rill/stream.order" .i64 ordIP := Lib.tabIs_of_head (rest := []) gOrdP gOrdTypeP Tryz.underlying208 Tryz.underlying3 cellsIntP cellsOrdP h2
 have c : ∀ i, i < 19 → W.cell? ⟨1, i, none⟩ = some (.int .i64 (ordN i : Nat)) := fun i hi => by
  rw [t.cell gOrdP i hi, ordI_atP i hi]
 exact ⟨c, block_lt_of_cell (c 0 (by omega))⟩
theorem bulk_one {H : Type} (d : DataW H) : 1 ≤ Rows.uptoBulk d := by
 cases d with
 | lit l => cases l <;> simp [Rows.uptoBulk]
 | nil => simp [Rows.uptoBulk]
 | ptr d => simp [Rows.uptoBulk]
 | slice elems spare => simp [Rows.uptoBulk]
 | agg parts => simp [Rows.uptoBulk]
 | iface t d => simp [Rows.uptoBulk]
 | map entries => simp [Rows.uptoBulk]
 | held h => simp [Rows.uptoBulk]
theorem bulk_part {H : Type} {d : DataW H} {l : List (DataW H)} (h : d ∈ l) : Rows.uptoBulk d ≤ Rows.uptoBulkAll l := by
 induction l with
 | nil => cases h
 |
  cons x r ih =>
  simp only [Rows.uptoBulkAll]
  cases List.mem_cons.1 h with
  | inl e => subst e; omega
  | inr e => have := ih e; omega
theorem bulk_length {H : Type} (l : List (DataW H)) : l.length ≤ Rows.uptoBulkAll l := by
 induction l with
 | nil => simp [Rows.uptoBulkAll]
 | cons x r ih => have := bulk_one x; simp only [Rows.uptoBulkAll, List.length_cons]; omega
theorem bulk_elems {H : Type} (elems spare : List (DataW H)) : Rows.uptoBulkAll elems + 1 ≤ Rows.uptoBulk (.slice elems spare) := by
 simp only [Rows.uptoBulk]
 omega
/-- A cell's address is plain. -/
theorem plain_addr {w : World} {a : Addr} {v : Value} (h : w.cell? (a.add 0) = some v) : ∃ b off, a = ⟨b, off, none⟩ := by
 obtain ⟨b, off, spot⟩ := a
 have hspot : spot = none := by simpa [Addr.add] using World.cell?_spot h
 subst hspot
 exact ⟨b, off, rfl⟩
theorem cellsStrP : Tryz.prog.cellsOf 9 = 1 := by kernel_rfl
theorem cellsStepP : Tryz.prog.cellsOf 28 = 5 := by kernel_rfl
/-- A step as it is read. -/
theorem addr_plain (b off j : Nat) : (⟨b, off, none⟩ : Addr).add j = ⟨b, off + j, none⟩ := by
 unfold Addr.add
 split <;> simp_all
set_option maxRecDepth 8000 in
theorem step_open {H : Type} {enc : TypeId × Value → H} {W : World} {base : Nat} {spare : Nat → Bool} {held : Bool} {fuel : Nat} {cs : List Value} {x : DataW H × List MemPlace} (h : DataW.trod enc Tryz.prog W base spare held fuel 28 cs = some x) :
 ∃ (kd aa bb wh : Int) (s : ByteArray), cs = [.int .i64 kd, .int .i64 aa, .int .i64 bb, .int .i64 wh, .string s] ∧ x.1 = .agg [.lit (.int .i64 kd), .lit (.int .i64 aa), .lit (.int .i64 bb), .lit (.int .i64 wh), .lit (.string s.data.toList)] ∧ (Lit.int .i64 kd).wf = true ∧ (Lit.int .i64 aa).wf = true ∧ (Lit.int .i64 bb).wf = true ∧ (Lit.int .i64 wh).wf = true := by
 obtain ⟨xs, k, hk, hxy, hlen, hxl, hf⟩ := DataW.trod_struct Tryz.underlying28 h
 rw [cellsStepP] at hlen
 match xs, hxl, cs, hlen with
 |
  [y0, y1, y2, y3, y4], _, [v0, v1, v2, v3, v4], _ =>
  have g0 : DataW.trod enc Tryz.prog W base spare held k 3 [v0] = some y0 := by
   have q : DataW.trod enc Tryz.prog W base spare held k 3 ((([v0, v1, v2, v3, v4] : List Value).drop 0).take (Tryz.prog.cellsOf 3)) = [y0, y1, y2, y3, y4][0]? := hf 0 _ rfl
   rw [cellsIntP] at q
   exact q
  have g1 : DataW.trod enc Tryz.prog W base spare held k 3 [v1] = some y1 := by
   have q : DataW.trod enc Tryz.prog W base spare held k 3 ((([v0, v1, v2, v3, v4] : List Value).drop 1).take (Tryz.prog.cellsOf 3)) = [y0, y1, y2, y3, y4][1]? := hf 1 _ rfl
   rw [cellsIntP] at q
   exact q
  have g2 : DataW.trod enc Tryz.prog W base spare held k 3 [v2] = some y2 := by
   have q : DataW.trod enc Tryz.prog W base spare held k 3 ((([v0, v1, v2, v3, v4] : List Value).drop 2).take (Tryz.prog.cellsOf 3)) = [y0, y1, y2, y3, y4][2]? := hf 2 _ rfl
   rw [cellsIntP] at q
   exact q
  have g3 : DataW.trod enc Tryz.prog W base spare held k 3 [v3] = some y3 := by
   have q : DataW.trod enc Tryz.prog W base spare held k 3 ((([v0, v1, v2, v3, v4] : List Value).drop 3).take (Tryz.prog.cellsOf 3)) = [y0, y1, y2, y3, y4][3]? := hf 3 _ rfl
   rw [cellsIntP] at q
   exact q
  have g4 : DataW.trod enc Tryz.prog W base spare held k 9 [v4] = some y4 := by
   have q : DataW.trod enc Tryz.prog W base spare held k 9 ((([v0, v1, v2, v3, v4] : List Value).drop 4).take (Tryz.prog.cellsOf 9)) = [y0, y1, y2, y3, y4][4]? := hf 4 _ rfl
   rw [cellsStrP] at q
   exact q
  obtain ⟨n0, e0, z0, w0⟩ := DataW.trod_int Tryz.underlying3 g0
  obtain ⟨n1, e1, z1, w1⟩ := DataW.trod_int Tryz.underlying3 g1
  obtain ⟨n2, e2, z2, w2⟩ := DataW.trod_int Tryz.underlying3 g2
  obtain ⟨n3, e3, z3, w3⟩ := DataW.trod_int Tryz.underlying3 g3
  obtain ⟨s, e4, z4, _⟩ := DataW.trod_string Tryz.underlying9 g4
  refine ⟨n0, n1, n2, n3, s, ?_, ?_, w0, w1, w2, w3⟩
  ·
   rw [List.cons.injEq] at e0 e1 e2 e3 e4
   rw [e0.1, e1.1, e2.1, e3.1, e4.1]
  ·
   rw [hxy, z0, z1, z2, z3, z4]
   rfl
instance : Inhabited (Int × Int × Int × Int × ByteArray) := ⟨(0, 0, 0, 0, .empty)⟩
/-- A script as it is read. -/
theorem script_open {H : Type} {enc : TypeId × Value → H} {W : World} {spare : Nat → Bool} {held : Bool} {fuel : Nat} {a0 : Option Addr} {len0 cap0 : Nat} {x : DataW H × List MemPlace} (h : DataW.trod enc Tryz.prog W 0 spare held fuel 22 [.slice a0 len0 cap0] = some x) (hb : Rows.uptoBulk x.1 ≤ 1048576) :
 ∃ (kd aa bb wh : Nat → Int) (SS : Nat → ByteArray), len0 ≤ 1048576 ∧ ScrM W a0 len0 kd aa bb wh SS ∧ ScrB len0 kd aa bb wh SS := by
 rcases open_slice Tryz.underlying22 h with ⟨hcs, _⟩ | ⟨a, len, cap, m, n, D, Pl, hcs, _, hl, hm, hmm, rfl, hx⟩
 ·
  simp at hcs
  obtain ⟨rfl, rfl, rfl⟩ := hcs
  exact ⟨fun _ => 0, fun _ => 0, fun _ => 0, fun _ => 0, fun _ => .empty, by omega, fun k hk => by omega, fun k hk => by omega⟩
 ·
  simp at hcs
  obtain ⟨rfl, rfl, rfl⟩ := hcs
  have hlm : len0 ≤ m := by rw [hmm]; split <;> omega
  have hel := bulk_elems ((List.range len0).map D) ((List.range (m - len0)).map fun j => D (len0 + j))
  have hln := bulk_length ((List.range len0).map D)
  simp only [List.length_map, List.length_range] at hln
  simp only at hb
  obtain ⟨q, hq⟩ := choose_lt (α := Int × Int × Int × Int × ByteArray) (n := len0) (p := fun i q => W.cells? 0 (a.add (i * 5)) 5 = some [.int .i64 q.1, .int .i64 q.2.1, .int .i64 q.2.2.1, .int .i64 q.2.2.2.1, .string q.2.2.2.2] ∧ D i = .agg [.lit (.int .i64 q.1), .lit (.int .i64 q.2.1), .lit (.int .i64 q.2.2.1), .lit (.int .i64 q.2.2.2.1), .lit (.string q.2.2.2.2.data.toList)] ∧ (Lit.int .i64 q.1).wf = true ∧ (Lit.int .i64 q.2.1).wf = true ∧ (Lit.int .i64 q.2.2.1).wf = true ∧ (Lit.int .i64 q.2.2.2.1).wf = true) (fun i hi => by
   obtain ⟨cs', h1, h2⟩ := hx i (by omega)
   rw [cellsStepP] at h1
   obtain ⟨kd, aa, bb, wh, s, rfl, hD, w1, w2, w3, w4⟩ := step_open h2
   exact ⟨(kd, aa, bb, wh, s), h1, hD, w1, w2, w3, w4⟩)
  refine ⟨fun k => (q k).1, fun k => (q k).2.1, fun k => (q k).2.2.1, fun k => (q k).2.2.2.1, fun k => (q k).2.2.2.2, by omega, fun k hk => ?_, fun k hk => ?_⟩
  ·
   obtain ⟨h1, _⟩ := hq k hk
   obtain ⟨_, _, hc⟩ := World.cells?_some h1
   obtain ⟨_, _, hc0⟩ := World.cells?_some (hq 0 (by omega)).1
   have z := hc0 0 (by omega)
   rw [show 0 * 5 = 0 by rfl, add_add] at z
   obtain ⟨b, off, rfl⟩ := plain_addr z
   have c0 := hc 0 (by omega)
   have c1 := hc 1 (by omega)
   have c2 := hc 2 (by omega)
   have c3 := hc 3 (by omega)
   have c4 := hc 4 (by omega)
   rw [add_add, addr_plain] at c0 c1 c2 c3 c4
   rw [Nat.add_zero] at c0
   exact ⟨b, off, rfl, block_lt_of_cell c0, c0, by rw [Nat.add_assoc]; exact c1, by rw [Nat.add_assoc]; exact c2, by rw [Nat.add_assoc]; exact c3, by rw [Nat.add_assoc]; exact c4⟩
  ·
   obtain ⟨_, hD, w1, w2, w3, w4⟩ := hq k hk
   refine ⟨bounds_i64 w1, bounds_i64 w2, bounds_i64 w3, bounds_i64 w4, ?_⟩
   have hp := bulk_part (l := (List.range len0).map D) (List.mem_map.2 ⟨k, List.mem_range.2 hk, rfl⟩)
   rw [hD] at hp
   simp only [Rows.uptoBulk, Rows.uptoBulkAll] at hp
   rw [← size_list] at hp
   show (q k).2.2.2.2.size ≤ _
   omega
set_option maxRecDepth 4000 in
theorem channels_contract (H : Type) (enc : TypeId × Value → H) (W : World) (base : Nat) (args : Array Value) (ds gs : List (DataW H)) (before : List MemPlace)
 (hval : ∀ (j : Nat) t v, Tryz.f3.params[j]? = some t → args[j]? = some v → Value.okWide Tryz.prog W .any base t v)
 (hW : DataW.Whole enc Tryz.prog Tryz.f3.params.toList Rows.channelsSpec.vars false W args.toList ds gs before)
 (hk : Rows.uptoSmall H (ds ++ gs) = true)
 (hL : laidMetH Tryz.prog Rows.channelsRow.laid W) :
 Calls Tryz.prog 3 args W fun e W' => ∃ v, e = .returned v ∧ Rows.channelsSpec.post enc Tryz.prog Tryz.f3 false true false false W args v W' := by
 have hW' := hW
 obtain ⟨p, q, hA0, hV, rfl, hfz, hnd⟩ := hW
 have hA : DataW.TrodAll enc Tryz.prog W 0 (fun _ => true) true Tryz.f3.params.toList args.toList ds p := hA0
 rw [Tryz.params3] at hA hval
 obtain ⟨v0, vs0, d0, ds0, p0, q0, hargs, rfl, rfl, h0, r0⟩ := trodAll_cons hA
 obtain ⟨v1, vs1, d1, ds1, p1, q1, rfl, rfl, rfl, h1, r1⟩ := trodAll_cons r0
 obtain ⟨rfl, rfl, rfl⟩ := trodAll_nil r1
 obtain rfl : args = #[v0, v1] := by cases args; simp_all
 obtain ⟨rfl, rfl⟩ := trodVars_none hV
 obtain ⟨a, rfl, rfl, rfl, wa⟩ := open_int Tryz.underlying3 (hval 0 3 v0 rfl rfl) h0
 obtain ⟨a0, len0, cap0, rfl⟩ := okWide_slice Tryz.underlying22 (hval 1 22 v1 rfl rfl)
 have k1 := h1
 have lt1 : ∀ x ∈ p1, x.block < W.heap.size := by obtain ⟨m, hm⟩ := k1; exact DataW.trod_lt m _ _ _ hm
 have hb : Rows.uptoBulkAll [DataW.lit (.int .i64 a), d1] ≤ 1048576 := by
  have := of_decide_eq_true hk
  simpa using this
 obtain ⟨kd, aa, bb, wh, SS, hlen, hscr, hbds⟩ : ∃ (kd aa bb wh : Nat → Int) (SS : Nat → ByteArray), len0 ≤ 1048576 ∧ ScrM W a0 len0 kd aa bb wh SS ∧ ScrB len0 kd aa bb wh SS := by
  obtain ⟨fuel, hf⟩ := h1
  exact script_open hf (by simp only [Rows.uptoBulkAll] at hb; show Rows.uptoBulk d1 ≤ _; omega)
 clear hA0
 have ho := ord_of_laidP hL
 refine (channels_any a a0 len0 cap0 W kd aa bb wh SS hlen hscr hbds ho.lt ho).mono fun e W' ⟨he, bel⟩ => ?_
 subst he
 exact ⟨_, rfl, _, _, _, [], _, [], hW', trodAll_mk1 (shut_bool Tryz.underlying4 _), (trodAll_cons_mk (shut_int Tryz.underlying3 wa) (trodAll_cons_mk (Below.trod laidOutP (by kernel_rfl) (of_decide_eq_true (by kernel_rfl)) k1 bel lt1) trodAll_mk0)), rfl, bel.frame _, fun h => by cases h⟩
/-- A world for the witness: the variables as their initialisers lay them. -/
noncomputable def laidWorldP (os : Os) : World := World.laidAll Tryz.prog os Rows.channelsRow.laid
theorem channels_laid_met (os : Os) : laidMet Tryz.prog Rows.channelsRow.laid ((laidWorldP os).forCall (fun _ _ => 0) ⟨#[], #[.int .i64 0, .slice none 0 0], []⟩).memory :=
 laidMet_laidAll _ (by kernel_rfl) (by kernel_rfl)
theorem channels_reads (os : Os) {H : Type} (enc : TypeId × Value → H) : ∃ places, DataW.whole enc Tryz.prog ((laidWorldP os).forCall (fun _ _ => 0) ⟨#[], #[.int .i64 0, .slice none 0 0], []⟩).memory Tryz.f3.params.toList Rows.channelsSpec.vars false #[Value.int .i64 0, .slice none 0 0].toList 8 = some ([.lit (.int .i64 0), .nil], [], places) :=
 ⟨[], by kernel_rfl⟩
set_option maxRecDepth 100000 in
theorem channels_lifted (os : Os) (started : os.Started) (H : Type) (enc : TypeId × Value → H) (F : Stop.Interp) :
 ReturnsInHanded {} Tryz.checked os 3 .any ((Rows.OpenSpec.upto Rows.channelsSpec).preRow enc Tryz.prog Tryz.f3 Rows.channelsUptoRow.domain false Rows.channelsUptoRow.laid) (((Rows.OpenSpec.upto Rows.channelsSpec).at F).post enc Tryz.prog Tryz.f3 false true false false) := by
 obtain ⟨places, hx⟩ := channels_reads os enc
 refine returnsInHanded_of_row (C := Tryz.checked) (s := Rows.OpenSpec.upto Rows.channelsSpec) ownKnobP started (by kernel_rfl) Tryz.func3
  (witness_row_at (enc := enc) (C := Tryz.checked) false (laidWorldP os) #[.int .i64 0, .slice none 0 0] (World.laidAll_os _ _ _) (by kernel_rfl) (by kernel_rfl) (by kernel_rfl)
   (OpenSpec.preRow_of_cond 8 hx (by kernel_rfl) (fun k hk => by cases hk; kernel_rfl) (by kernel_rfl) (channels_laid_met os))) ?_
 intro W base args ds gs before hval hW _ hcond _ hL _ _
 exact channels_contract H enc W base args ds gs before hval hW (hcond _ rfl) hL
theorem channels_said : Rows.ChannelsUptoSaid :=
 OpenClaim.holds_of_cond 3 Tryz.f3 rfl rfl rfl rfl rfl rfl rfl ⟨rfl, rfl, rfl, rfl, rfl⟩ rfl rfl rfl rfl rfl (by kernel_rfl) Tryz.func3 (by kernel_rfl)
  (of_decide_eq_true (by kernel_rfl)) (by unfold Func.isWrapper; first | (rw [if_pos (by decide +kernel)]; kernel_rfl) | (rw [if_neg (by decide +kernel)]; exact ⟨rfl, rfl⟩))
  (fun os started H enc _ F => by rw [OpenClaim.pre_eq_preRow]; exact channels_lifted os started H enc F)
/-- No parameter wants a stand-in. -/
theorem channels_plain (f : FuncId) (fn : Func) (hf : Tryz.pinned.checked.prog.funcNamed "rill/rilllaw.Channels" = some f) (hfn : Tryz.pinned.checked.prog.funcs[f]? = some fn) :
 true = Tryz.pinned.checked.prog.looks [] ∧ ∀ (j : Nat) t, fn.params[j]? = some t → Tryz.pinned.checked.prog.wantsStandIn t = false := by
 obtain rfl : f = 3 := Option.some.inj ((show Tryz.prog.funcNamed "rill/rilllaw.Channels" = some 3 by kernel_rfl).symm.trans hf) |>.symm
 obtain rfl : fn = Tryz.f3 := (Option.some.inj (Tryz.func3.symm.trans hfn)).symm
 refine ⟨by kernel_rfl, fun j t ht => ?_⟩
 rw [Tryz.params3] at ht
 have hm : t = 3 ∨ t = 22 := by simpa using Array.mem_of_getElem? ht
 rcases hm with rfl | rfl
 · exact (show Tryz.prog.wantsStandIn 3 = false by kernel_rfl)
 · exact (show Tryz.prog.wantsStandIn 22 = false by kernel_rfl)
/-- ████ THE CARD ████ -/
theorem channels_upto_holds : Rows.ChannelsUptoCardSaid :=
 Claim7.holds_tied_plain_at .later [] _ _ _ _ channels_said (fun _ h => by cases h) (by kernel_rfl) (fun _ h => by cases h) channelsUpto_row_tie rfl ⟨rfl, rfl⟩ (by kernel_rfl) rfl channels_plain (by kernel_rfl)
#print axioms channels_upto_holds
end Go.Proofs.YtecddphahiadlaaGreatDoor
