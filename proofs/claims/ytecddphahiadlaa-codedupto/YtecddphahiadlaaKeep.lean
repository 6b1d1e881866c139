/- The contract of keep. -/
import Derived.Test.YtecddphahiadlaaInv
import Derived.Deep.CutBlock
import Derived.Deep.DeepCutAuto
namespace Go.Proofs.Ytecddphahiadlaa
open Go.RowKit

theorem Try.info25 : (Try.prog.info? 25).map (fun i => (i.zero, i.size, i.bytes)) = some (some (.slice none 0 0), 1, 24) := by kernel_rfl

/-- Some world that holds N lists. -/
def Held (B : Nat) (w : World) (gw N : Nat) : Prop := ∃ col vl vm L mk, Inv B w col gw N N vl vm L mk

/-- The state of the third loop. -/
def K3 (B : Nat) (w wr : World) (gw N k : Nat) (v : Value) (m : ByteArray) : Prop :=
  (∃ col vl vm L mk, KS B wr col gw N N vl vm L mk v k m) ∧ Below B w wr

/-- The state of the second loop. -/
structure K2 (w wr : World) (g n j : Nat) (f : Nat → ByteArray) (m : ByteArray) : Prop where
  row : wr.rowIs g 9 n (fun i => .string (if i < j then m else f i))
  grown : w.grownBy wr (some g)

theorem k2_step {w wr : World} {g n j : Nat} {f : Nat → ByteArray} {m : ByteArray} (h : K2 w wr g n j f m) : K2 w (wr.setCell ⟨g, j, none⟩ (.string m)) g n (j + 1) f m := by
  refine ⟨(h.row.set j _).congr (fun i _ => ?_), ⟨h.grown.os, h.grown.tape, h.grown.output, by simp [World.setCell]; exact h.grown.size, fun k hk hne => ?_⟩⟩
  · by_cases e : i = j
    · subst e; rw [if_pos rfl, if_pos (by omega)]
    · rw [if_neg e]
      by_cases hlt : i < j
      · rw [if_pos hlt, if_pos (by omega)]
      · rw [if_neg hlt, if_neg (by omega)]
  · rw [Below.heap_setCell _ _ _ _ (fun e => hne (by rw [e]))]
    exact h.grown.block k hk hne

theorem mark_size (s : ByteArray) (x : Nat) : (s ++ (⟨#[48, 49]⟩ : ByteArray).extract (x % 2) (x % 2 + 1)).size ≤ s.size + 1 := by
  rw [ByteArray.size_append, ByteArray.size_extract]
  omega

theorem owns_shape {w : World} {base : Nat} {e : TypeId} {size : Nat} {v : Value} {n : Nat} {xs : List Value} (h : w.ownsRow base e size v n xs) : ∃ ao cap, v = .slice ao n cap := by
  obtain ⟨_, q⟩ := h
  rcases q with ⟨q, q0⟩ | ⟨g, cap, cur, q, _⟩
  · exact ⟨none, 0, by rw [q, q0]⟩
  · exact ⟨_, _, q⟩

theorem setCell_size (w : World) (a : Addr) (v : Value) : (w.setCell a v).heap.size = w.heap.size := by simp [World.setCell]

theorem below_app {B : Nat} {w wr w' : World} {o : Obj} {g : Nat} (bel : Below B w wr) (hg : (wr.alloc o).grownBy w' (some g)) (hB : B ≤ wr.heap.size) (hBg : B ≤ g) : Below B w w' :=
  (bel.alloc hB o).grown hg (by simp; omega) (fun k e => by have h : g = k := Option.some.inj e; omega)

set_option maxHeartbeats 1000000 in
theorem keep_any (B gw N n : Nat) (w : World) (col : Nat → Nat) (vl vm : Value) (L : Nat → Value) (mk : Nat → ByteArray) (v : Value) (inv : Inv B w col gw N N vl vm L mk) (hB : B ≤ w.heap.size) (hN : N ≤ 8388608) (hn : n ≤ 288) (hv : Fresh B w col v n) :
    Calls Try.prog 17 #[.pointer (some ⟨gw, 0, none⟩), v] w fun e w' => e = .returned (.tuple #[]) ∧ Held B w' gw (N + 4) ∧ Below B w w' := by
  have c1 := inv.c1
  obtain ⟨aom, capm, hvm⟩ := owns_shape inv.om
  rw [hvm] at c1
  go_enter Try.func17, Try.ntmps17
  go_wp2_with fail
  go_loop [4, 5] (fun s x => ∃ (m : ByteArray) (y : Nat), s = .string m ∧ x = .int .i64 y ∧ m.size + y ≤ N + 4) (fun _ x => (intOf x).toNat)
  case atStart => exact ⟨_, N, rfl, rfl, by show 4 + N ≤ N + 4; omega⟩
  case round =>
    obtain ⟨m, y, rfl, rfl, hmy⟩ := hrel
    by_cases hy : 0 < y
    · have hms := mark_size m y
      have hms2 : m.size + (min (y % 2 + 1) 2 - y % 2) ≤ 9223372036854775807 := by omega
      have HM : Hid ((m ++ (⟨#[48, 49]⟩ : ByteArray).extract (y % 2) (y % 2 + 1)).size + y / 2 ≤ N + 4) := by
        show _ ≤ _
        omega
      clear hms
      go_wp2
      go_round
      case rel => exact ⟨_, y / 2, rfl, by go_num, HM.out⟩
      case measure => simp [intOf]; omega
    · obtain rfl : y = 0 := by omega
      clear c1
      go_upto_block 2 with fail
      go_cut [1, 6] (fun v' _ wx => K3 B w wx gw N n v' m)
      case first =>
        rcases hv with ⟨hv1, hv2⟩ | ⟨g, f, hv1, hgB, hgc, hrow⟩
        · subst hv2
          rw [hv1]
          have R : K3 B w w gw N 0 (.slice none 0 0) m := ⟨⟨_, _, _, _, _, ks_start_nil inv m⟩, Below.refl _ _⟩
          go_wp2_with fail
          go_loop [6] (fun i => i = .int .i64 0) (fun i => (intOf i).toNat)
          case atStart => exact rfl
          case round =>
            obtain rfl := hrel
            go_wp2_with fail
            go_meet
            exact R
        · rw [hv1]
          go_wp2_with fail
          go_loopw [6] (fun i wr => ∃ j : Nat, j ≤ n ∧ i = .int .i64 j ∧ K2 w wr g n j f m) (fun i _ => n - (intOf i).toNat)
          case atStart => exact ⟨0, by omega, rfl, ⟨hrow.congr (fun i _ => by simp), World.grownBy.refl _ _⟩⟩
          case round =>
            obtain ⟨j, hj, rfl, hrel⟩ := hrel
            by_cases hlt : j < n
            · have cc := hrel.row.cell hlt
              have cf := hrel.row.frozen j
              have R := k2_step hrel
              go_wp2
              go_roundw
              case rel => exact ⟨j + 1, by omega, by go_num, R⟩
              case measure => simp [intOf]; omega
            · obtain rfl : j = n := by omega
              have R : K3 B w wr gw N j (.slice (some ⟨g, 0, none⟩) j j) m := ⟨⟨_, _, _, _, _, ks_start inv hgB (by omega) hgc hrel.grown.size (fun b hb hne => hrel.grown.block b hb (by intro e; exact hne (Option.some.inj e))) (hrel.row.congr (fun i hi => by rw [if_pos hi]))⟩, (Below.refl _ _).grown hrel.grown hB (fun k e => by have h : g = k := Option.some.inj e; omega)⟩
              go_wp2_with fail
              go_meet
              exact R
      case rest =>
        clear hv inv hvm
        have R0 := hcut
        clear hcut
        go_wp2_with fail
        go_loopw [1, 7, 8] (fun v i _ wr => ∃ t : Nat, t ≤ 4 ∧ i = .int .i64 t ∧ K3 B w wr gw (N + t) (n + t) v m) (fun _ i _ _ => 4 - (intOf i).toNat)
        case atStart => exact ⟨0, by omega, rfl, R0⟩
        case round =>
          obtain ⟨t, ht, rfl, ⟨col, vl, vm, L, mk, ks⟩, bel⟩ := hrel
          clear R0
          by_cases hlt : t < 4
          · obtain ⟨ao, cap, rfl⟩ := owns_shape ks.ov
            have hs0 := bel.size
            have c0 := ks.inv.c0
            have f0 := ks.inv.row.frozen 0
            go_wp2_with (first | (at_builtin; refine wpList_append1s wr rfl (.tmp 44) (.tmp 46) 24 rfl B 25 (.slice none 0 0) 24 Try.underlying24 Try.info25 rfl vl (N + t) _ (.slice ao (n + t) cap) rfl rfl wr.heap.size rfl rfl ks.inv.ol (by omega) (by unfold maxLen; omega) (by omega) ?_) | fail)
            intro gl cl w2 ho hd hg
            have st := stp_of ks.inv.olc hd hg ho
            have ks1 := ks_list ks st ho
            have hgw : gw ≠ gl := st.far gw ks.inv.row.lt (by rw [ks.inv.gwc]; omega)
            have row2 := ks.inv.row.of_block (st.same gw ks.inv.row.lt hgw)
            have d0 : w2.cell? ⟨gw, 0, none⟩ = some vl := by simpa using row2.cell (i := 0) (by omega)
            have d1 : w2.cell? ⟨gw, 1, none⟩ = some vm := by simpa using row2.cell (i := 1) (by omega)
            have g0 := row2.frozen 0
            have g1 := row2.frozen 1
            have bel2 : Below B w (w2.setCell ⟨gw, 0, none⟩ (.slice (some ⟨gl, 0, none⟩) (N + t + 1) cl)) := (below_app bel hg (by omega) (ho.lt gl rfl).1).setCell ks.inv.gwB _
            have hs2 := bel2.size
            clear ho hd hg st row2 c0 f0 bel
            go_wp2_with (first | (at_builtin; refine wpList_append1s (w2.setCell ⟨gw, 0, none⟩ (.slice (some ⟨gl, 0, none⟩) (N + t + 1) cl)) rfl (.tmp 54) (.tmp 56) 25 rfl B 9 (.string .empty) 16 Try.underlying25 Try.info9 rfl vm (N + t) _ (.string m) rfl rfl w2.heap.size (by simp [World.setCell]) rfl ks1.inv.om (by omega) (by unfold maxLen; omega) (by omega) ?_) | fail)
            intro gm cm w5 ho hd hg
            have hd' : (w2.setCell ⟨gw, 0, none⟩ (.slice (some ⟨gl, 0, none⟩) (N + t + 1) cl)).heap.size + 1 ≤ gm ∨ vm.ownBlock = some gm := by rw [setCell_size]; exact hd
            have st := stp_of ks1.inv.omc hd' hg ho
            have ks2 := ks_mark ks1 (by rw [if_pos rfl]) (by omega) st ho
            have hgw5 : gw ≠ gm := st.far gw ks1.inv.row.lt (by rw [ks1.inv.gwc]; omega)
            have row5 := ks1.inv.row.of_block (st.same gw ks1.inv.row.lt hgw5)
            have e1 : w5.cell? ⟨gw, 1, none⟩ = some vm := by simpa using row5.cell (i := 1) (by omega)
            have h1 := row5.frozen 1
            have bel5 : Below B w (w5.setCell ⟨gw, 1, none⟩ (.slice (some ⟨gm, 0, none⟩) (N + t + 1) cm)) := (below_app bel2 hg (by omega) (ho.lt gm rfl).1).setCell ks.inv.gwB _
            have hs5 := bel5.size
            clear ho hd hd' hg st row5 d0 d1 g0 g1 bel2
            go_wp2_with (first | (at_builtin; refine wpList_append1s (w5.setCell ⟨gw, 1, none⟩ (.slice (some ⟨gm, 0, none⟩) (N + t + 1) cm)) rfl (.tmp 60) (.tmp 62) 25 rfl B 9 (.string .empty) 16 Try.underlying25 Try.info9 rfl (.slice ao (n + t) cap) (n + t) _ (.string m) rfl rfl w5.heap.size (by simp [World.setCell]) rfl ks2.ov (by omega) (by unfold maxLen; omega) (by omega) ?_) | fail)
            intro g3 c3 w8 ho hd hg
            have hd' : (w5.setCell ⟨gw, 1, none⟩ (.slice (some ⟨gm, 0, none⟩) (N + t + 1) cm)).heap.size + 1 ≤ g3 ∨ (Value.slice ao (n + t) cap).ownBlock = some g3 := by rw [setCell_size]; exact hd
            have st := stp_of ks2.ovc hd' hg ho
            have ks3 := ks_more ks2 st hd' ho
            have bel8 : Below B w w8 := below_app bel5 hg (by omega) (ho.lt g3 rfl).1
            have R : K3 B w w8 gw (N + (t + 1)) (n + (t + 1)) (.slice (some ⟨g3, 0, none⟩) (n + (t + 1)) c3) m := ⟨⟨_, _, _, _, _, ks3⟩, bel8⟩
            clear ho hd hd' hg st e1 h1 bel5 ks ks1 ks2 ks3 bel8
            go_wp2
            go_roundw
            case rel => exact ⟨t + 1, by omega, by go_num, R⟩
            case measure => simp [intOf]; omega
          · obtain rfl : t = 4 := by omega
            go_wp2
            go_end0
            exact ⟨rfl, ⟨_, _, _, _, _, ks.inv⟩, bel⟩

end Go.Proofs.Ytecddphahiadlaa
