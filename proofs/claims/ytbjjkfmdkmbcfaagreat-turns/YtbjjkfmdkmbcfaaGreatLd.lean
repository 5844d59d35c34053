import Derived.Test.YtbjjkfmdkmbcfaaGreatLc
namespace Go.Proofs.YtbjjkfmdkmbcfaaGreat
open Go.RowKit
open PlLv

attribute [local go_sem ↓] Go.wp_at_zero Go.wp_at_succ

theorem const64 : ∀ p ∈ [((0 : Nat), (0 : Nat)), (4616189618054758400, 0), (4607182418800017408, 4607182418800017408)], p.1 < 2 ^ 64 ∧ p.2 < 2 ^ 64 := by decide
theorem const642 : ∀ p ∈ [((0 : Nat), (0 : Nat)), (4607182418800017408, 0), (4611686018427387904, 0)], p.1 < 2 ^ 64 ∧ p.2 < 2 ^ 64 := by decide

theorem turn_box {w W : World} {a b c d e f : Value} {o : Obj} (hb : Below ((((w.alloc (.cells #[a, b] 24)).alloc (.cells #[c, d] 24)).alloc (.cells #[e, f] 24)).alloc o).heap.size ((((w.alloc (.cells #[a, b] 24)).alloc (.cells #[c, d] 24)).alloc (.cells #[e, f] 24)).alloc o) W) :
    W.cell? ⟨w.heap.size, 0, none⟩ = some a ∧ W.cell? ⟨w.heap.size, 1, none⟩ = some b ∧ W.cell? ⟨w.heap.size + 1, 0, none⟩ = some c ∧ W.cell? ⟨w.heap.size + 1, 1, none⟩ = some d ∧ W.cell? ⟨w.heap.size + 1 + 1, 0, none⟩ = some e ∧ W.cell? ⟨w.heap.size + 1 + 1, 1, none⟩ = some f := by
  obtain ⟨hc, _⟩ := bcell hb
  rw [hc _ _ (by simp <;> omega), hc _ _ (by simp <;> omega), hc _ _ (by simp <;> omega), hc _ _ (by simp <;> omega), hc _ _ (by simp <;> omega), hc _ _ (by simp <;> omega)]
  simp [go_sem]

set_option maxHeartbeats 4000000 in
set_option maxRecDepth 100000 in
theorem turns_any (ax ay bx by' cx cy : Nat) (w : World) (h64 : ∀ p ∈ [(ax, ay), (bx, by'), (cx, cy)], p.1 < 2 ^ 64 ∧ p.2 < 2 ^ 64) :
    Calls Tryz.prog 3 #[.agg #[.int .u64 ax, .int .u64 ay], .agg #[.int .u64 bx, .int .u64 by'], .agg #[.int .u64 cx, .int .u64 cy]] w fun e w' => e = .returned (.bool true) ∧ Below w.heap.size w w' := by
  go_enter Tryz.func3, Tryz.ntmps3
  go_wp2_with (first | (go_at_call 8; have g1 := hb1; go_must (refine (plays_any _ 2 ax ay bx by' cx cy ax ay bx by' cx cy _ (by simp) (by unfold Ops2; simp [go_sem]) h64 h64).mono ?_; rintro e w2 ⟨hb2, rfl⟩)) | (go_at_call 8; go_must (refine (plays_any _ 2 0 0 4616189618054758400 0 4607182418800017408 4607182418800017408 0 0 4607182418800017408 0 4611686018427387904 0 _ (by simp) (by unfold Ops2; simp [go_sem]) const64 const642).mono ?_; rintro e w1 ⟨hb1, rfl⟩; obtain ⟨t0, t1, t2, t3, t4, t5⟩ := turn_box hb1)))
  go_ret
  refine ⟨rfl, ?_⟩
  have h4 := below_step hb1 (((((Below.refl _ w).alloc (Nat.le_refl _) _).alloc (by simp) _).alloc (by simp; omega) _).alloc (by simp; omega) _)
  exact below_step hb2 (h4.alloc h4.size _)

end Go.Proofs.YtbjjkfmdkmbcfaaGreat
