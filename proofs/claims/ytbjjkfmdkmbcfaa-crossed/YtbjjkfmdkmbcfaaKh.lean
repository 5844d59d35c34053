import Derived.Test.YtbjjkfmdkmbcfaaKg
namespace Go.Proofs.Ytbjjkfmdkmbcfaa
open Go.RowKit
open PlRd

attribute [local go_sem ↓] Go.wp_at_zero Go.wp_at_succ

set_option maxHeartbeats 8000000 in
set_option maxRecDepth 100000 in
theorem meetk_ok (ax ay bx by' cx cy dx dy : Nat) (w : World) (h64 : ∀ p ∈ [(ax, ay), (bx, by'), (cx, cy), (dx, dy)], p.1 < 2 ^ 64 ∧ p.2 < 2 ^ 64) (hok : okPts [(ax, ay), (bx, by'), (cx, cy), (dx, dy)] = true) :
    Calls Try.prog 12 #[.agg #[.int .u64 ax, .int .u64 ay], .agg #[.int .u64 bx, .int .u64 by'], .agg #[.int .u64 cx, .int .u64 cy], .agg #[.int .u64 dx, .int .u64 dy]] w fun e w' => Below w.heap.size w w' ∧ e = .returned (.tuple #[.int .i64 (meetI (crd ax) (crd ay) (crd bx) (crd by') (crd cx) (crd cy) (crd dx) (crd dy)), .int .i64 0]) := by
  obtain ⟨⟨hax, hay⟩, ⟨hbx, hby⟩, ⟨hcx, hcy⟩, ⟨hdx, hdy⟩⟩ := crs4_of_ok hok
  have HM : Hid (∀ V, Calls Try.prog 32 #[.agg #[.float .f64 ax, .float .f64 ay], .agg #[.float .f64 bx, .float .f64 by'], .agg #[.float .f64 cx, .float .f64 cy], .agg #[.float .f64 dx, .float .f64 dy]] V fun e w' => e = .returned (.int .i64 (meetI (crd ax) (crd ay) (crd bx) (crd by') (crd cx) (crd cy) (crd dx) (crd dy))) ∧ Below V.heap.size V w') := fun V => meet_cr ax ay bx by' cx cy dx dy _ _ _ _ _ _ _ _ V hax hay hbx hby hcx hcy hdx hdy
  clear hax hay hbx hby hcx hcy hdx hdy
  go_enter Try.func12, Try.ntmps12
  go_wp2_with (go_at_call 24; go_must (refine (spots4_ok _ ax ay bx by' cx cy dx dy _ h64 (by simp [go_sem]) (by simp [go_sem]) (by simp [go_sem]) (by simp [go_sem]) (by simp [go_sem]) (by simp [go_sem]) (by simp [go_sem]) (by simp [go_sem]) (by simp) hok).mono ?_; rintro e W ⟨hb, rfl, hcs, hG⟩))
  have hw : Below w.heap.size w W := by
    refine Below.trans ?_ (hb.mono (by simp; omega))
    repeat (first | exact Below.refl _ _ | refine Below.drew ?_ | refine Below.alloc ?_ (by simp <;> omega) _)
  simp only [World.size_alloc] at hcs hG
  have KS : ∀ w', Below W.heap.size W w' → (w'.cell? ⟨w.heap.size + 1 + 1 + 1 + 1 + 1, 0, none⟩ = some (.float .f64 ax) ∧ w'.cell? ⟨w.heap.size + 1 + 1 + 1 + 1 + 1, 1, none⟩ = some (.float .f64 ay) ∧ w'.cell? ⟨w.heap.size + 1 + 1 + 1 + 1 + 1, 2, none⟩ = some (.float .f64 bx) ∧ w'.cell? ⟨w.heap.size + 1 + 1 + 1 + 1 + 1, 3, none⟩ = some (.float .f64 by') ∧ w'.cell? ⟨w.heap.size + 1 + 1 + 1 + 1 + 1, 4, none⟩ = some (.float .f64 cx) ∧ w'.cell? ⟨w.heap.size + 1 + 1 + 1 + 1 + 1, 5, none⟩ = some (.float .f64 cy) ∧ w'.cell? ⟨w.heap.size + 1 + 1 + 1 + 1 + 1, 6, none⟩ = some (.float .f64 dx) ∧ w'.cell? ⟨w.heap.size + 1 + 1 + 1 + 1 + 1, 7, none⟩ = some (.float .f64 dy)) := by
    intro w' h
    obtain ⟨hc, _⟩ := bcell h
    simp only [hc _ _ hG]
    exact hcs
  have hS0 := KS W (Below.refl _ _)
  clear hb hcs
  go_region_held3 (fun w' : World => (w'.cell? ⟨w.heap.size + 1 + 1 + 1 + 1 + 1, 0, none⟩ = some (.float .f64 ax) ∧ w'.cell? ⟨w.heap.size + 1 + 1 + 1 + 1 + 1, 1, none⟩ = some (.float .f64 ay) ∧ w'.cell? ⟨w.heap.size + 1 + 1 + 1 + 1 + 1, 2, none⟩ = some (.float .f64 bx) ∧ w'.cell? ⟨w.heap.size + 1 + 1 + 1 + 1 + 1, 3, none⟩ = some (.float .f64 by') ∧ w'.cell? ⟨w.heap.size + 1 + 1 + 1 + 1 + 1, 4, none⟩ = some (.float .f64 cx) ∧ w'.cell? ⟨w.heap.size + 1 + 1 + 1 + 1 + 1, 5, none⟩ = some (.float .f64 cy) ∧ w'.cell? ⟨w.heap.size + 1 + 1 + 1 + 1 + 1, 6, none⟩ = some (.float .f64 dx) ∧ w'.cell? ⟨w.heap.size + 1 + 1 + 1 + 1 + 1, 7, none⟩ = some (.float .f64 dy))) (exact KS _ (by repeat (first | exact hW1 | exact Below.refl _ _ | refine Below.drew ?_ | refine below_alloc _ ?_))) (first | (go_at_call 32; go_must (refine (HM.out _).mono ?_; rintro e w1 ⟨rfl, hb1⟩; have hW1 : Below W.heap.size W w1 := below_step hb1 (by repeat (first | exact Below.refl _ _ | refine Below.drew ?_ | refine below_alloc _ ?_)))))
  all_goals
    go_wp2
    go_ret2
    exact ⟨hw.trans (hW1.mono hw.size), rfl⟩


/-- What Meet answers. -/
structure MRt (ax ay bx by' cx cy dx dy : Nat) (n E : Int) : Prop where
  out : ∀ V, Calls Try.prog 12 #[.agg #[.int .u64 ax, .int .u64 ay], .agg #[.int .u64 bx, .int .u64 by'], .agg #[.int .u64 cx, .int .u64 cy], .agg #[.int .u64 dx, .int .u64 dy]] V fun e w' => Below V.heap.size V w' ∧ e = .returned (.tuple #[.int .i64 n, .int .i64 E])
theorem MRt.use {ax ay bx by' cx cy dx dy : Nat} {n E : Int} (h : MRt ax ay bx by' cx cy dx dy n E) (V : World) : Calls Try.prog 12 #[.agg #[.int .u64 ax, .int .u64 ay], .agg #[.int .u64 bx, .int .u64 by'], .agg #[.int .u64 cx, .int .u64 cy], .agg #[.int .u64 dx, .int .u64 dy]] V fun e w' => Below V.heap.size V w' ∧ e = .returned (.tuple #[.int .i64 n, .int .i64 E]) := h.out V

def mV (a b c d : Nat × Nat) : Int := meetI (crd a.1) (crd a.2) (crd b.1) (crd b.2) (crd c.1) (crd c.2) (crd d.1) (crd d.2)
def mS (a b c d : Nat × Nat) : Int := if okPts [a, b, c, d] then mV a b c d else 0

theorem meet_all (a b c d : Nat × Nat) (h : L64 [a, b, c, d]) : MRt a.1 a.2 b.1 b.2 c.1 c.2 d.1 d.2 (mS a b c d) (oE [a, b, c, d]) := by
  constructor
  intro V
  unfold mS oE
  cases hk : okPts [a, b, c, d]
  · exact meet_no a.1 a.2 b.1 b.2 c.1 c.2 d.1 d.2 V h hk
  · exact meetk_ok a.1 a.2 b.1 b.2 c.1 c.2 d.1 d.2 V h hk

theorem trn_swap (AX AY BX BY CX CY : Int) : trn BX BY AX AY CX CY = - trn AX AY BX BY CX CY := by
  unfold trn
  rw [show turnI BX BY AX AY CX CY = - turnI AX AY BX BY CX CY by unfold turnI; grind, sgn_neg]
theorem trn_first (AX AY BX BY : Int) : trn AX AY BX BY AX AY = 0 := by
  unfold trn
  rw [show turnI AX AY BX BY AX AY = 0 by unfold turnI; grind]
  rfl
theorem btw_swap (X A B : Int) : btw X B A = btw X A B := by unfold btw; rw [Int.mul_comm]
theorem btw_first (A B : Int) : btw A A B = true := by
  unfold btw
  rw [Int.sub_self, show sgn 0 = 0 from rfl, Int.zero_mul]
  rfl
theorem lies_swap (PX PY AX AY BX BY : Int) : liesI PX PY BX BY AX AY = liesI PX PY AX AY BX BY := by
  unfold liesI
  rw [btw_swap, btw_swap PY, trn_swap]
  congr 1
  rw [decide_eq_decide]
  omega
theorem parts_swap (AX AY BX BY CX CY DX DY : Int) : partsI BX BY AX AY CX CY DX DY = partsI AX AY BX BY CX CY DX DY := by
  unfold partsI
  rw [trn_swap, trn_swap AX AY BX BY DX DY, Int.neg_mul_neg]
theorem parts_comm (AX AY BX BY CX CY DX DY : Int) : partsI AX AY BX BY DX DY CX CY = partsI AX AY BX BY CX CY DX DY := by
  unfold partsI
  rw [Int.mul_comm]
theorem meet_swap (AX AY BX BY CX CY DX DY : Int) : meetI CX CY DX DY AX AY BX BY = meetI AX AY BX BY CX CY DX DY := by
  unfold meetI
  rw [Bool.and_comm]
  congr 1
  congr 2
  generalize liesI CX CY AX AY BX BY = p
  generalize liesI DX DY AX AY BX BY = q
  generalize liesI AX AY CX CY DX DY = r
  generalize liesI BX BY CX CY DX DY = s
  cases p <;> cases q <;> cases r <;> cases s <;> rfl
theorem meet_back (AX AY BX BY CX CY DX DY : Int) : meetI BX BY AX AY CX CY DX DY = meetI AX AY BX BY CX CY DX DY := by
  unfold meetI
  rw [parts_swap, parts_comm CX CY DX DY AX AY BX BY, lies_swap CX, lies_swap DX]
  congr 1
  congr 2
  generalize liesI CX CY AX AY BX BY = p
  generalize liesI DX DY AX AY BX BY = q
  generalize liesI AX AY CX CY DX DY = r
  generalize liesI BX BY CX CY DX DY = s
  cases p <;> cases q <;> cases r <;> cases s <;> rfl
theorem meet_self (AX AY BX BY : Int) : meetI AX AY BX BY AX AY BX BY = 1 := by
  unfold meetI
  have h1 : partsI AX AY BX BY AX AY BX BY = false := by
    unfold partsI
    rw [trn_first, Int.zero_mul]
    rfl
  have h2 : liesI AX AY AX AY BX BY = true := by
    unfold liesI
    rw [btw_first, btw_first, trn_first]
    rfl
  rw [h1, h2]
  rfl

theorem oS_trn {a b c : Nat × Nat} (h : okPts [a, b, c] = true) : oS a b c = trn (crd a.1) (crd a.2) (crd b.1) (crd b.2) (crd c.1) (crd c.2) := by
  have hm : (mayB a.1 = true ∧ mayB a.2 = true) ∧ (mayB b.1 = true ∧ mayB b.2 = true) ∧ (mayB c.1 = true ∧ mayB c.2 = true) := by simpa [okPts] using h
  unfold oS
  rw [if_pos h, ← trn_scale]
  unfold turnV turnI EU
  rw [← valB_crd hm.1.1, ← valB_crd hm.1.2, ← valB_crd hm.2.1.1, ← valB_crd hm.2.1.2, ← valB_crd hm.2.2.1, ← valB_crd hm.2.2.2]

theorem meet_two (AX AY BX BY CX CY DX DY : Int) : (meetI AX AY BX BY CX CY DX DY = 2 ↔ (trn AX AY BX BY CX CY * trn AX AY BX BY DX DY = -1 ∧ trn CX CY DX DY AX AY * trn CX CY DX DY BX BY = -1)) ∧ 0 ≤ meetI AX AY BX BY CX CY DX DY ∧ meetI AX AY BX BY CX CY DX DY ≤ 2 := by
  unfold meetI
  have h : (partsI AX AY BX BY CX CY DX DY && partsI CX CY DX DY AX AY BX BY) = true ↔ (trn AX AY BX BY CX CY * trn AX AY BX BY DX DY = -1 ∧ trn CX CY DX DY AX AY * trn CX CY DX DY BX BY = -1) := by
    unfold partsI
    rw [Bool.and_eq_true, decide_eq_true_eq, decide_eq_true_eq]
  by_cases hp : (partsI AX AY BX BY CX CY DX DY && partsI CX CY DX DY AX AY BX BY) = true
  · rw [if_pos hp]
    exact ⟨⟨fun _ => h.1 hp, fun _ => rfl⟩, by omega, by omega⟩
  · rw [if_neg hp]
    refine ⟨⟨fun e => ?_, fun e => absurd (h.2 e) hp⟩, ?_, ?_⟩
    · split at e <;> omega
    · split <;> omega
    · split <;> omega

end Go.Proofs.Ytbjjkfmdkmbcfaa
