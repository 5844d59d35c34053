import Derived.Test.YtbjjkfmdkmbcfaaGreatOw
import Derived.Test.YtbjjkfmdkmbcfaaGreatWz
import Derived.Test.YtbjjkfmdkmbcfaaGreatSb
namespace Go.Proofs.YtbjjkfmdkmbcfaaGreat
open Go.RowKit
open PlRd

attribute [local go_sem ↓] Go.wp_at_zero Go.wp_at_succ

theorem cr_mayB {b : Nat} (h : mayB b = true) : Cr b (crd b) := by
  have h1 := co_mayB h
  rw [valB_crd h] at h1
  exact h1

theorem crs4_of_ok {ax ay bx by' cx cy dx dy : Nat} (hok : okPts [(ax, ay), (bx, by'), (cx, cy), (dx, dy)] = true) : (Cr ax (crd ax) ∧ Cr ay (crd ay)) ∧ (Cr bx (crd bx) ∧ Cr by' (crd by')) ∧ (Cr cx (crd cx) ∧ Cr cy (crd cy)) ∧ (Cr dx (crd dx) ∧ Cr dy (crd dy)) := by
  have hm : (mayB ax = true ∧ mayB ay = true) ∧ (mayB bx = true ∧ mayB by' = true) ∧ (mayB cx = true ∧ mayB cy = true) ∧ (mayB dx = true ∧ mayB dy = true) := by simpa [okPts] using hok
  exact ⟨⟨cr_mayB hm.1.1, cr_mayB hm.1.2⟩, ⟨cr_mayB hm.2.1.1, cr_mayB hm.2.1.2⟩, ⟨cr_mayB hm.2.2.1.1, cr_mayB hm.2.2.1.2⟩, ⟨cr_mayB hm.2.2.2.1, cr_mayB hm.2.2.2.2⟩⟩

theorem lies_on (PX PY AX AY BX BY : Int) : liesI PX PY AX AY BX BY = onP AX AY BX BY PX PY := by
  unfold liesI onP btw trn turnI
  rw [Bool.and_comm, Bool.and_assoc]

theorem meet_eq (AX AY BX BY CX CY DX DY : Int) : meetI AX AY BX BY CX CY DX DY = meetP AX AY BX BY CX CY DX DY := by
  unfold meetI meetP partsI
  simp only [lies_on, Bool.and_eq_true, decide_eq_true_eq, Bool.or_assoc]
  rfl

set_option maxHeartbeats 8000000 in
set_option maxRecDepth 100000 in
theorem meetp_ok (ax ay bx by' cx cy dx dy : Nat) (w : World) (h64 : ∀ p ∈ [(ax, ay), (bx, by'), (cx, cy), (dx, dy)], p.1 < 2 ^ 64 ∧ p.2 < 2 ^ 64) (hok : okPts [(ax, ay), (bx, by'), (cx, cy), (dx, dy)] = true) :
    Calls Tryz.prog 19 #[.agg #[.int .u64 ax, .int .u64 ay], .agg #[.int .u64 bx, .int .u64 by'], .agg #[.int .u64 cx, .int .u64 cy], .agg #[.int .u64 dx, .int .u64 dy]] w fun e w' => Below w.heap.size w w' ∧ e = .returned (.tuple #[.int .i64 (meetP (crd ax) (crd ay) (crd bx) (crd by') (crd cx) (crd cy) (crd dx) (crd dy)), .int .i64 0]) := by
  obtain ⟨⟨hax, hay⟩, ⟨hbx, hby⟩, ⟨hcx, hcy⟩, ⟨hdx, hdy⟩⟩ := crs4_of_ok hok
  have HM : Hid (∀ V, Calls Tryz.prog 44 #[.agg #[.float .f64 ax, .float .f64 ay], .agg #[.float .f64 bx, .float .f64 by'], .agg #[.float .f64 cx, .float .f64 cy], .agg #[.float .f64 dx, .float .f64 dy]] V fun e w' => e = .returned (.int .i64 (meetP (crd ax) (crd ay) (crd bx) (crd by') (crd cx) (crd cy) (crd dx) (crd dy))) ∧ Below V.heap.size V w') := fun V => by rw [← meet_eq]; exact meet_cr ax ay bx by' cx cy dx dy _ _ _ _ _ _ _ _ V hax hay hbx hby hcx hcy hdx hdy
  clear hax hay hbx hby hcx hcy hdx hdy
  go_enter Tryz.func19, Tryz.ntmps19
  go_wp2_with (go_at_call 35; go_must (refine (spots4_ok _ ax ay bx by' cx cy dx dy _ h64 (by simp [go_sem]) (by simp [go_sem]) (by simp [go_sem]) (by simp [go_sem]) (by simp [go_sem]) (by simp [go_sem]) (by simp [go_sem]) (by simp [go_sem]) (by simp) hok).mono ?_; rintro e W ⟨hb, rfl, hcs, hG⟩))
  have hw : Below w.heap.size w W := by
    refine Below.trans ?_ (hb.mono (by simp; omega))
    repeat (first | exact Below.refl _ _ | refine Below.drew ?_ | refine Below.alloc ?_ (by simp <;> omega) _)
  simp only [World.size_alloc] at hcs hG
  have KS : ∀ w', Below W.heap.size W w' → (w'.cell? ⟨w.heap.size + 1 + 1 + 1 + 1 + 1, 0, none⟩ = some (.float .f64 ax) ∧ w'.cell? ⟨w.heap.size + 1 + 1 + 1 + 1 + 1, 1, none⟩ = some (.float .f64 ay) ∧ w'.cell? ⟨w.heap.size + 1 + 1 + 1 + 1 + 1, 2, none⟩ = some (.float .f64 bx) ∧ w'.cell? ⟨w.heap.size + 1 + 1 + 1 + 1 + 1, 3, none⟩ = some (.float .f64 by') ∧ w'.cell? ⟨w.heap.size + 1 + 1 + 1 + 1 + 1, 4, none⟩ = some (.float .f64 cx) ∧ w'.cell? ⟨w.heap.size + 1 + 1 + 1 + 1 + 1, 5, none⟩ = some (.float .f64 cy) ∧ w'.cell? ⟨w.heap.size + 1 + 1 + 1 + 1 + 1, 6, none⟩ = some (.float .f64 dx) ∧ w'.cell? ⟨w.heap.size + 1 + 1 + 1 + 1 + 1, 7, none⟩ = some (.float .f64 dy)) := by
    intro w' h
    obtain ⟨hc, _⟩ := bcell h
    simp only [hc _ _ hG]
    exact hcs
  have hS0 := KS W (Below.refl _ _)
  clear hb hcs
  go_region_held3 (fun w' : World => (w'.cell? ⟨w.heap.size + 1 + 1 + 1 + 1 + 1, 0, none⟩ = some (.float .f64 ax) ∧ w'.cell? ⟨w.heap.size + 1 + 1 + 1 + 1 + 1, 1, none⟩ = some (.float .f64 ay) ∧ w'.cell? ⟨w.heap.size + 1 + 1 + 1 + 1 + 1, 2, none⟩ = some (.float .f64 bx) ∧ w'.cell? ⟨w.heap.size + 1 + 1 + 1 + 1 + 1, 3, none⟩ = some (.float .f64 by') ∧ w'.cell? ⟨w.heap.size + 1 + 1 + 1 + 1 + 1, 4, none⟩ = some (.float .f64 cx) ∧ w'.cell? ⟨w.heap.size + 1 + 1 + 1 + 1 + 1, 5, none⟩ = some (.float .f64 cy) ∧ w'.cell? ⟨w.heap.size + 1 + 1 + 1 + 1 + 1, 6, none⟩ = some (.float .f64 dx) ∧ w'.cell? ⟨w.heap.size + 1 + 1 + 1 + 1 + 1, 7, none⟩ = some (.float .f64 dy))) (exact KS _ (by repeat (first | exact hW1 | exact Below.refl _ _ | refine Below.drew ?_ | refine below_alloc _ ?_))) (first | (go_at_call 44; go_must (refine (HM.out _).mono ?_; rintro e w1 ⟨rfl, hb1⟩; have hW1 : Below W.heap.size W w1 := below_step hb1 (by repeat (first | exact Below.refl _ _ | refine Below.drew ?_ | refine below_alloc _ ?_)))))
  all_goals
    go_wp2
    go_ret2
    exact ⟨hw.trans (hW1.mono hw.size), rfl⟩

end Go.Proofs.YtbjjkfmdkmbcfaaGreat
