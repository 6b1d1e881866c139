/- The program's Read and Inflate. -/
import Derived.Test.YtecddphahiadlaaGreatDoorCGFeed
import Derived.Test.YtecddphahiadlaaGreatDoorCInfA
import Derived.Test.YtecddphahiadlaaGreatDoorCGWhy
namespace Go.Proofs.YtecddphahiadlaaGreatDoor
open Go.RowKit

/-- What Read answers. -/
def readAns (σ : St) : Value :=
  if σ.why = 0 then .tuple #[.string ⟨σ.text.toArray⟩, .int .i64 ((σ.pos + 7) / 8 : Nat), .int .i64 0]
  else .tuple #[.string ⟨σ.text.toArray⟩, .int .i64 0, .int .i64 (σ.why : Nat)]

def rdAns (s : ByteArray) : Value := readAns (runF s)

def RdPost (w : World) (s : ByteArray) (e : Ending) (w' : World) : Prop := e = .returned (rdAns s) ∧ Below w.heap.size w w'

def newCells : Array Value := #[.string .empty, .int .i64 0, .int .i64 0, .int .i64 0, .int .i64 0, .slice none 0 0, .bool false, .int .i64 0, .pointer none, .pointer none]
def exNew : Ex := ⟨0, false, 0, .pointer none, .pointer none, 83, 10, fun _ => undef⟩
theorem read_start (w : World) : RdA (fun _ => False) w.heap.size (w.alloc (.cells newCells 83)) w.heap.size .empty M0 start (.slice none 0 0) exNew 0 := by
  refine ⟨⟨Nat.le_refl _, Nat.le_refl _, ?_, ⟨rfl, Or.inl ⟨rfl, rfl⟩⟩, by simp [Value.ownBlock]⟩, rfl, rfl, rfl, by show 0 ≤ 65535; omega, rfl, Or.inl rfl⟩
  exact World.rowIs_alloc w newCells 83 _ (fun i hi => by
    match i, hi with
    | 0, _ => rfl
    | 1, _ => rfl
    | 2, _ => rfl
    | 3, _ => simp [newCells, rdCell, exNew]
    | 4, _ => simp [newCells, rdCell, exNew]
    | 5, _ => rfl
    | 6, _ => rfl
    | 7, _ => rfl
    | 8, _ => rfl
    | 9, _ => rfl)
theorem empty_app (T : ByteArray) : (ByteArray.empty ++ T) = T := by
  apply ByteArray.ext; simp

set_option maxRecDepth 8000 in
set_option maxHeartbeats 1000000 in
theorem read_any (s : ByteArray) (w : World) (hs : s.size ≤ 140737488400000) (h0 : 1 < w.heap.size) (hord : OrdIn w 1) :
    Calls Tryz.prog 35 #[.string s] w fun e w' => RdPost w s e w' := by
  have hr0 := read_start w
  have hord1 := hord.kp (Kp.alloc w (.cells newCells 83) w.heap.size (.slice none 0 0)) (by omega) (by simp [Value.ownBlock])
  have HF : Hid (_) := gfeed_any (fun _ => False) w.heap.size w.heap.size .empty s M0 start (.slice none 0 0) exNew _ hr0 (by simp) (by show 0 + s.size ≤ _; omega) ⟨Nat.zero_le _, by show 0 ≤ 5000; omega⟩ rfl h0 hord1 (fun _ h => absurd h id)
  rw [empty_app] at HF
  have hfit := runF_fit s
  clear hr0 hord1
  go_enter Tryz.func35, Tryz.ntmps35
  go_wp2_with fail
  refine Calls.mono HF.out ?_
  rintro e w1 ⟨y, m', σ', vt', x', hG, rfl, _, k1, _, _⟩
  obtain ⟨ey, et, _, ep⟩ := runF_of hG
  have hb1 : Below w.heap.size w w1 := ⟨k1.os, k1.tape, k1.output, by have := k1.size; simp at this; omega, fun b hb => (k1.block b (by simp; omega) (by omega) (by simp [Value.ownBlock])).trans (Below.heap_alloc w _ b hb)⟩
  have hb1d : Below w.heap.size w w1.drew := hb1.drew
  have HANS : Hid (rdAns s = if y = 0 then .tuple #[.string ⟨σ'.text.toArray⟩, .int .i64 ((σ'.pos + 7) / 8 : Nat), .int .i64 0] else .tuple #[.string ⟨σ'.text.toArray⟩, .int .i64 0, .int .i64 (y : Nat)]) := by
    show readAns (runF s) = _
    unfold readAns
    rw [ey, et]
    by_cases h : y = 0
    · rw [if_pos h, if_pos h, ep h]
    · rw [if_neg h, if_neg h]
  have hp : y = 0 → (σ'.pos + 7) / 8 ≤ s.size := fun h => by have := hfit.pos; rw [ep h] at this; omega
  have HV : Hid (feedAns start.text.length s y σ' = .tuple #[.string ⟨σ'.text.toArray⟩, .int .i64 (if y = 0 then s.size - (σ'.pos + 7) / 8 else 0 : Nat), .int .i64 (y : Nat)]) := rfl
  rw [HV.out]
  generalize (σ'.pos + 7) / 8 = q at HANS hp ⊢
  generalize (⟨σ'.text.toArray⟩ : ByteArray) = tx at HANS ⊢
  clear HF hG k1 hfit ey et ep HV
  by_cases hy : y = 0
  · subst hy
    have hq := hp rfl
    have HE : Hid (rdAns s = .tuple #[.string tx, .int .i64 (q : Nat), .int .i64 0]) := by show _ = _; rw [HANS.out, if_pos rfl]
    have hqI : (s.size : Int) - ((s.size - q : Nat) : Int) = (q : Int) := by omega
    rw [if_pos rfl]
    have hq2 : ((s.size - q : Nat) : Int) ≤ 140737488400000 := by omega
    generalize s.size - q = left at hqI hq2 ⊢
    clear HANS hp
    go_wp2
    go_ret3
    exact ⟨by rw [HE.out]; rfl, by first | exact hb1 | exact hb1d⟩
  · have e3 : ((y : Int) != 0) = true := by rw [bne_iff_ne]; omega
    have HE : Hid (rdAns s = .tuple #[.string tx, .int .i64 0, .int .i64 (y : Nat)]) := by show _ = _; rw [HANS.out, if_neg hy]
    rw [if_neg hy]
    clear HANS hy hp
    go_wp2
    go_ret3
    exact ⟨by rw [HE.out]; rfl, hb1⟩

set_option maxRecDepth 4000 in
set_option maxHeartbeats 1000000 in
theorem ginflate_any (s : ByteArray) (w : World) (hs : s.size ≤ 140737488400000) (h0 : 1 < w.heap.size) (hord : OrdIn w 1) :
    Calls Tryz.prog 15 #[.string s] w fun e w' => InfPost w s e w' := by
  go_enter Tryz.func15, Tryz.ntmps15
  go_wp2_with fail
  refine (read_any s w hs h0 hord).mono ?_
  rintro e w1 ⟨he, hb1⟩
  have HANS : Hid (infAns s = if (runF s).why = 0 then .tuple #[.string ⟨(runF s).text.toArray⟩, .int .i64 (((runF s).pos + 7) / 8 : Nat), .int .i64 0] else if (runF s).why = 2 then .tuple #[.string ⟨(runF s).text.toArray⟩, .int .i64 0, .int .i64 2] else .tuple #[.string .empty, .int .i64 0, .int .i64 ((runF s).why : Nat)]) := rfl
  have HR : rdAns s = if (runF s).why = 0 then .tuple #[.string ⟨(runF s).text.toArray⟩, .int .i64 (((runF s).pos + 7) / 8 : Nat), .int .i64 0] else .tuple #[.string ⟨(runF s).text.toArray⟩, .int .i64 0, .int .i64 ((runF s).why : Nat)] := rfl
  have hw := (runF_wy s).le
  rw [HR] at he
  clear HR
  generalize runF s = σ at he HANS hw
  by_cases hy : σ.why = 0
  · rw [if_pos hy] at he
    have HE : Hid (infAns s = .tuple #[.string ⟨σ.text.toArray⟩, .int .i64 ((σ.pos + 7) / 8 : Nat), .int .i64 0]) := by show _ = _; rw [HANS.out, if_pos hy]
    clear HANS hy hw
    subst he
    go_wp2
    go_ret3
    exact ⟨by rw [HE.out]; rfl, hb1⟩
  · rw [if_neg hy] at he
    by_cases hy2 : σ.why = 2
    · have HE : Hid (infAns s = .tuple #[.string ⟨σ.text.toArray⟩, .int .i64 0, .int .i64 2]) := by show _ = _; rw [HANS.out, if_neg hy, if_pos hy2]
      rw [hy2] at he
      clear HANS hy hw hy2
      subst he
      go_wp2
      go_ret3
      exact ⟨by rw [HE.out]; rfl, hb1⟩
    · have HE : Hid (infAns s = .tuple #[.string .empty, .int .i64 0, .int .i64 (σ.why : Nat)]) := by show _ = _; rw [HANS.out, if_neg hy, if_neg hy2]
      by_cases hy1 : σ.why = 1
      · rw [hy1] at he HE
        clear HANS hy hw hy2 hy1
        subst he
        go_wp2
        go_ret3
        exact ⟨by rw [HE.out]; rfl, hb1⟩
      · have hy3 : σ.why = 3 := by omega
        rw [hy3] at he HE
        clear HANS hy hw hy2 hy1 hy3
        subst he
        go_wp2
        go_ret3
        exact ⟨by rw [HE.out]; rfl, hb1⟩

end Go.Proofs.YtecddphahiadlaaGreatDoor
