/- The program's symbol. -/
import Derived.Test.YtnfghnolklhppaaDoorGSymb
namespace Go.Proofs.YtnfghnolklhppaaDoor
open Go.RowKit

set_option maxRecDepth 4000 in
set_option maxHeartbeats 1000000 in
theorem gsymbol_any (B gx g n : Nat) (s : ByteArray) (σ : St) (vt fx : Value) (z : Nat → Int) (sy : Nat → Nat) (w : World) (h : Rd B w gx s σ vt fx) (hs : s.size ≤ 140737488355328) (hf : Fit s σ) (hy : σ.why = 0)
    (hset : SetIn w z n g sy) (hgx : g ≠ gx) (hvg : vt.ownBlock ≠ some g) :
    Calls Tryd.prog 50 #[.pointer (some ⟨gx, 0, none⟩), setV z n g] w fun e w' => e = endOf (symF s (codeT z n) n σ).2.why (.int .i64 (symF s (codeT z n) n σ).1) ∧ Rd B w' gx s (symF s (codeT z n) n σ).2 vt fx ∧ Kp w w' gx vt := by
  have hmf : ∀ (fn : Fn) (first cap : Array Value) (w : World), (Instr.makeFunc fn first cap).run Tryd.prog w = .ok (.func fn first cap) w := fun _ _ _ _ => rfl
  have hnew : (w.alloc (.cells (setA (cntN z n) (.slice (some ⟨g, 0, none⟩) (pas (cntN z n) 15) (pas (cntN z n) 15))) 80)).drew.heap[w.heap.size]? = _ := heap_alloc_last w (.cells (setA (cntN z n) (.slice (some ⟨g, 0, none⟩) (pas (cntN z n) 15) (pas (cntN z n) 15))) 80)
  have hd := (h.alloc (.cells (setA (cntN z n) (.slice (some ⟨g, 0, none⟩) (pas (cntN z n) 15) (pas (cntN z n) 15))) 80)).drew
  have hK1 : Kp w (w.alloc (.cells (setA (cntN z n) (.slice (some ⟨g, 0, none⟩) (pas (cntN z n) 15) (pas (cntN z n) 15))) 80)).drew gx vt := (Kp.alloc w _ gx vt).drewN 1
  have hset1 := hset.kp hK1 hgx hvg
  unfold setV
  go_enter Tryd.func50, Tryd.ntmps50
  go_wp2_with fail
  refine wp_region_any (by kernel_rfl) ?_
  change wpAny _ _ _ _ _ _ _ (World.drew _)
  refine wpAny_take (i := 1) (v := .pointer (some ⟨gx, 0, none⟩)) rfl (by kernel_rfl) (by kernel_rfl) (by kernel_rfl) (fun _ _ _ h => h) (Or.inl ⟨by rfl, ?_⟩) ?_
  · intro w; go_simp
  refine wpAny_take (i := 2) (v := .pointer (some ⟨gx, 0, none⟩)) rfl (by kernel_rfl) (by kernel_rfl) (by kernel_rfl) (fun _ _ _ h => h) (Or.inl ⟨by rfl, ?_⟩) ?_
  · intro w; go_simp
  refine wpAny_take (i := 3) (v := .pointer (some ⟨gx, 0, none⟩)) rfl (by kernel_rfl) (by kernel_rfl) (by kernel_rfl) (fun _ _ _ h => h) (Or.inl ⟨by rfl, ?_⟩) ?_
  · intro w; go_simp
  refine wpAny_ready (rs := [0, 4]) (by kernel_rfl) (by simp) ?_
  refine AllReady.cons rfl (fun K hK => ?_) (AllReady.cons rfl (fun K hK => ?_) AllReady.nil)
  · refine step_load_row rfl 80 (.tmp 3) rfl w.heap.size (by simp [Act.eval, Act.put]) 80 _ (0, 0) _ hnew Tryd.underlying80 rfl Tryd.size80 ?_
    go_simp
    refine hK _ _ ?_
    clear hK K
    refine wpAny_ready (rs := [4]) (by kernel_rfl) (by simp) ?_
    refine AllReady.cons rfl (fun K hK => ?_) AllReady.nil
    go_simp
    refine hK _ _ ?_
    clear hK K
    refine wpAny_ready (rs := [5]) (by kernel_rfl) (by simp) ?_
    refine AllReady.cons rfl (fun K hK => ?_) AllReady.nil
    go_simp
    go_at_call 74
    refine (setSymbol_any B gx g n s σ vt fx z sy _ hd hs hf hy hset1 hgx hvg).mono ?_
    rintro e w2 ⟨σ2, h2, k2, hcase⟩
    have K2 := hK1.trans k2
    clear k2
    rcases hcase with ⟨k, rfl, hg, hy2⟩ | ⟨rfl, hg, hy2⟩ | ⟨hy2, he, hg⟩
    · go_simp
      first | (refine hK _ _ ?_) | skip
      clear hK K
      refine wpAny_take (i := 6) (v := .tuple #[.int .i64 (k : Nat), .bool true]) rfl (by kernel_rfl) (by kernel_rfl) (by kernel_rfl) (fun _ _ _ h => h) (Or.inl ⟨by rfl, ?_⟩) ?_
      · intro w; go_simp
      refine wpAny_take (i := 7) (v := .int .i64 (k : Nat)) rfl (by kernel_rfl) (by kernel_rfl) (by kernel_rfl) (fun _ _ _ h => h) (Or.inl ⟨by rfl, ?_⟩) ?_
      · intro w; go_simp
      refine wpAny_take (i := 8) (v := .bool true) rfl (by kernel_rfl) (by kernel_rfl) (by kernel_rfl) (fun _ _ _ h => h) (Or.inl ⟨by rfl, ?_⟩) ?_
      · intro w; go_simp
      refine wpAny_ready (rs := [9]) (by kernel_rfl) (by simp) ?_
      refine AllReady.cons rfl (fun K hK => ?_) AllReady.nil
      go_simp
      refine hK _ _ ?_
      clear hK K
      refine wpAny_ready (rs := [10]) (by kernel_rfl) (by simp) ?_
      refine AllReady.cons rfl (fun K hK => ?_) AllReady.nil
      go_simp
      refine hK _ _ ?_
      clear hK K
      refine wpAny_done (by kernel_rfl) ?_ _
      go_wp2
      go_ret
      rw [hg]
      exact ⟨by rw [endOf_ok hy2]; rfl, h2, K2⟩
    · go_simp
      first | (refine hK _ _ ?_) | skip
      clear hK K
      refine wpAny_take (i := 6) (v := .tuple #[.int .i64 0, .bool false]) rfl (by kernel_rfl) (by kernel_rfl) (by kernel_rfl) (fun _ _ _ h => h) (Or.inl ⟨by rfl, ?_⟩) ?_
      · intro w; go_simp
      refine wpAny_take (i := 7) (v := .int .i64 0) rfl (by kernel_rfl) (by kernel_rfl) (by kernel_rfl) (fun _ _ _ h => h) (Or.inl ⟨by rfl, ?_⟩) ?_
      · intro w; go_simp
      refine wpAny_take (i := 8) (v := .bool false) rfl (by kernel_rfl) (by kernel_rfl) (by kernel_rfl) (fun _ _ _ h => h) (Or.inl ⟨by rfl, ?_⟩) ?_
      · intro w; go_simp
      refine wpAny_ready (rs := [9]) (by kernel_rfl) (by simp) ?_
      refine AllReady.cons rfl (fun K hK => ?_) AllReady.nil
      go_simp
      refine hK _ _ ?_
      clear hK K
      refine wpAny_ready (rs := [10]) (by kernel_rfl) (by simp) ?_
      refine AllReady.cons rfl (fun K hK => ?_) AllReady.nil
      go_simp
      refine hK _ _ ?_
      clear hK K
      refine wpAny_done (by kernel_rfl) ?_ _
      have hst : stopF σ2 1 = { σ2 with why := 1 } := by unfold stopF; rw [if_pos hy2]
      go_wp2_with fail
      refine (wrong_any _).mono ?_
      rintro e w4 ⟨rfl, rfl⟩
      rw [endOf_bad (by omega)]
      go_wp2
      rw [hg, hst]
      exact ⟨rfl, rfl, h2.congr rfl rfl, K2⟩
    · rw [endOf_bad hy2] at he; subst he
      clear hK
      go_wp2
      rw [hg, endOf_bad hy2]
      exact ⟨rfl, rfl, h2, K2⟩
  · go_simp
    refine hK _ _ ?_
    clear hK K
    refine wpAny_ready (rs := [0]) (by kernel_rfl) (by simp) ?_
    refine AllReady.cons rfl (fun K hK => ?_) AllReady.nil
    refine step_load_row rfl 80 (.tmp 3) rfl w.heap.size (by simp [Act.eval]) 80 _ (0, 0) _ hnew Tryd.underlying80 rfl Tryd.size80 ?_
    go_simp
    refine hK _ _ ?_
    clear hK K
    refine wpAny_ready (rs := [5]) (by kernel_rfl) (by simp) ?_
    refine AllReady.cons rfl (fun K hK => ?_) AllReady.nil
    go_simp
    go_at_call 74
    refine (setSymbol_any B gx g n s σ vt fx z sy _ hd hs hf hy hset1 hgx hvg).mono ?_
    rintro e w2 ⟨σ2, h2, k2, hcase⟩
    have K2 := hK1.trans k2
    clear k2
    rcases hcase with ⟨k, rfl, hg, hy2⟩ | ⟨rfl, hg, hy2⟩ | ⟨hy2, he, hg⟩
    · go_simp
      first | (refine hK _ _ ?_) | skip
      clear hK K
      refine wpAny_take (i := 6) (v := .tuple #[.int .i64 (k : Nat), .bool true]) rfl (by kernel_rfl) (by kernel_rfl) (by kernel_rfl) (fun _ _ _ h => h) (Or.inl ⟨by rfl, ?_⟩) ?_
      · intro w; go_simp
      refine wpAny_take (i := 7) (v := .int .i64 (k : Nat)) rfl (by kernel_rfl) (by kernel_rfl) (by kernel_rfl) (fun _ _ _ h => h) (Or.inl ⟨by rfl, ?_⟩) ?_
      · intro w; go_simp
      refine wpAny_take (i := 8) (v := .bool true) rfl (by kernel_rfl) (by kernel_rfl) (by kernel_rfl) (fun _ _ _ h => h) (Or.inl ⟨by rfl, ?_⟩) ?_
      · intro w; go_simp
      refine wpAny_ready (rs := [9]) (by kernel_rfl) (by simp) ?_
      refine AllReady.cons rfl (fun K hK => ?_) AllReady.nil
      go_simp
      refine hK _ _ ?_
      clear hK K
      refine wpAny_ready (rs := [10]) (by kernel_rfl) (by simp) ?_
      refine AllReady.cons rfl (fun K hK => ?_) AllReady.nil
      go_simp
      refine hK _ _ ?_
      clear hK K
      refine wpAny_done (by kernel_rfl) ?_ _
      go_wp2
      go_ret
      rw [hg]
      exact ⟨by rw [endOf_ok hy2]; rfl, h2, K2⟩
    · go_simp
      first | (refine hK _ _ ?_) | skip
      clear hK K
      refine wpAny_take (i := 6) (v := .tuple #[.int .i64 0, .bool false]) rfl (by kernel_rfl) (by kernel_rfl) (by kernel_rfl) (fun _ _ _ h => h) (Or.inl ⟨by rfl, ?_⟩) ?_
      · intro w; go_simp
      refine wpAny_take (i := 7) (v := .int .i64 0) rfl (by kernel_rfl) (by kernel_rfl) (by kernel_rfl) (fun _ _ _ h => h) (Or.inl ⟨by rfl, ?_⟩) ?_
      · intro w; go_simp
      refine wpAny_take (i := 8) (v := .bool false) rfl (by kernel_rfl) (by kernel_rfl) (by kernel_rfl) (fun _ _ _ h => h) (Or.inl ⟨by rfl, ?_⟩) ?_
      · intro w; go_simp
      refine wpAny_ready (rs := [9]) (by kernel_rfl) (by simp) ?_
      refine AllReady.cons rfl (fun K hK => ?_) AllReady.nil
      go_simp
      refine hK _ _ ?_
      clear hK K
      refine wpAny_ready (rs := [10]) (by kernel_rfl) (by simp) ?_
      refine AllReady.cons rfl (fun K hK => ?_) AllReady.nil
      go_simp
      refine hK _ _ ?_
      clear hK K
      refine wpAny_done (by kernel_rfl) ?_ _
      have hst : stopF σ2 1 = { σ2 with why := 1 } := by unfold stopF; rw [if_pos hy2]
      go_wp2_with fail
      refine (wrong_any _).mono ?_
      rintro e w4 ⟨rfl, rfl⟩
      rw [endOf_bad (by omega)]
      go_wp2
      rw [hg, hst]
      exact ⟨rfl, rfl, h2.congr rfl rfl, K2⟩
    · rw [endOf_bad hy2] at he; subst he
      clear hK
      go_wp2
      rw [hg, endOf_bad hy2]
      exact ⟨rfl, rfl, h2, K2⟩

end Go.Proofs.YtnfghnolklhppaaDoor
