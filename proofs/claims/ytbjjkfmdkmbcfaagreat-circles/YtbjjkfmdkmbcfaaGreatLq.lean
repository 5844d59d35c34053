import Derived.Test.YtbjjkfmdkmbcfaaGreatLp
import Derived.Test.YtbjjkfmdkmbcfaaGreatLc
namespace Go.Proofs.YtbjjkfmdkmbcfaaGreat
open Go.RowKit
open PlLv

attribute [local go_sem ↓] Go.wp_at_zero Go.wp_at_succ

set_option maxHeartbeats 2000000 in
set_option maxRecDepth 100000 in
theorem step_circle (pw : Option Addr) (ax ay bx by' cx cy dx dy : Nat) (w : World) (h64 : ∀ p ∈ [(ax, ay), (bx, by'), (cx, cy), (dx, dy)], p.1 < 2 ^ 64 ∧ p.2 < 2 ^ 64) :
    Calls Tryz.prog 10 #[.pointer pw, .agg #[.int .i64 3, .int .u64 ax, .int .u64 ay, .int .u64 bx, .int .u64 by', .int .u64 cx, .int .u64 cy, .int .u64 dx, .int .u64 dy, .slice none 0 0]] w fun e w' => Below w.heap.size w w' ∧ e = .returned (.bool true) := by
  have HA : Hid (∀ W, Calls Tryz.prog 12 #[.agg #[.int .i64 3, .int .u64 ax, .int .u64 ay, .int .u64 bx, .int .u64 by', .int .u64 cx, .int .u64 cy, .int .u64 dx, .int .u64 dy, .slice none 0 0]] W fun e w' => Below W.heap.size W w' ∧ e = .returned (.bool true)) := fun W => by
    rcases hok : okPts [(ax, ay), (bx, by'), (cx, cy), (dx, dy)] with _ | _
    · exact asked_circle_no ax ay bx by' cx cy dx dy W h64 hok
    · exact asked_circle_ok ax ay bx by' cx cy dx dy W h64 hok
  go_enter Tryz.func10, Tryz.ntmps10
  go_wp2_with (go_at_call 12; go_must (refine (HA.out _).mono ?_; rintro e w1 ⟨hb1, rfl⟩))
  go_ret
  exact ⟨below_step hb1 ((Below.refl _ w).alloc (Nat.le_refl _) _), rfl⟩

/-- The one step of a play, as it lies in memory. -/
def Opcircle (w : World) (g : Nat) (ax ay bx by' cx cy dx dy : Nat) : Prop := w.cell? ⟨g, 0, none⟩ = some (.int .i64 3) ∧ w.cell? ⟨g, 1, none⟩ = some (.int .u64 ax) ∧ w.cell? ⟨g, 2, none⟩ = some (.int .u64 ay) ∧ w.cell? ⟨g, 3, none⟩ = some (.int .u64 bx) ∧ w.cell? ⟨g, 4, none⟩ = some (.int .u64 by') ∧ w.cell? ⟨g, 5, none⟩ = some (.int .u64 cx) ∧ w.cell? ⟨g, 6, none⟩ = some (.int .u64 cy) ∧ w.cell? ⟨g, 7, none⟩ = some (.int .u64 dx) ∧ w.cell? ⟨g, 8, none⟩ = some (.int .u64 dy) ∧ w.cell? ⟨g, 9, none⟩ = some (.slice none 0 0)

theorem Opcircle.kept {w w' : World} {g : Nat} {ax ay bx by' cx cy dx dy : Nat} (h : Opcircle w g ax ay bx by' cx cy dx dy) (hg : g < w.heap.size) (hb : Below w.heap.size w w') : Opcircle w' g ax ay bx by' cx cy dx dy := by
  have hc : ∀ j, w'.cell? ⟨g, j, none⟩ = w.cell? ⟨g, j, none⟩ := fun j => hb.cell (p := ⟨g, j, none⟩) hg
  unfold Opcircle
  simp only [hc]
  exact h

set_option maxHeartbeats 4000000 in
set_option maxRecDepth 100000 in
theorem plays_circle (g c : Nat) (ax ay bx by' cx cy dx dy : Nat) (w : World) (hg : g < w.heap.size) (hops : Opcircle w g ax ay bx by' cx cy dx dy) (h64 : ∀ p ∈ [(ax, ay), (bx, by'), (cx, cy), (dx, dy)], p.1 < 2 ^ 64 ∧ p.2 < 2 ^ 64) :
    Calls Tryz.prog 8 #[.slice (some ⟨g, 0, none⟩) 1 c, .int .i64 3] w fun e w' => Below w.heap.size w w' ∧ e = .returned (.bool true) := by
  go_enter Tryz.func8, Tryz.ntmps8
  go_wp2
  generalize hW : World.alloc w _ = W
  have hWb : Below w.heap.size w W := by subst hW; exact (Below.refl _ _).alloc (Nat.le_refl _) _
  have hWs : w.heap.size < W.heap.size := by subst hW; simp
  have hW0 : W.cell? ⟨w.heap.size, 0, none⟩ = some (.slice none 0 0) := by subst hW; simp [go_sem]
  have hgW : g < W.heap.size := by omega
  have hopsW := hops.kept hg hWb
  clear hW hops
  go_loopw [6] (fun si wr => ∃ k : Nat, si = .int .i64 k ∧ k ≤ 1 ∧ Below W.heap.size W wr) (fun si _ => 1 - (intOf si).toNat)
  case atStart => exact ⟨0, rfl, by omega, Below.refl _ _⟩
  case round =>
    obtain ⟨k, rfl, hk, hbel⟩ := hrel
    have hl0 : wr.cell? ⟨w.heap.size, 0, none⟩ = some (.slice none 0 0) := (hbel.cell (p := ⟨w.heap.size, 0, none⟩) hWs).trans hW0
    have KL : Hid (∀ W', Below wr.heap.size wr W' → W'.cell? ⟨w.heap.size, 0, none⟩ = some (.slice none 0 0)) := fun W' h => ((bcell h).1 _ _ (Nat.lt_of_lt_of_le hWs hbel.size)).trans hl0
    have ho := hopsW.kept hgW hbel
    unfold Opcircle at ho
    match k, hk with
    | 0, _ =>
      go_wp2_with (first | (go_at_call 10; go_must (refine (step_circle _ ax ay bx by' cx cy dx dy _ h64).mono ?_; rintro e w1 ⟨hb1, rfl⟩; have hl1 := KL.out w1 hb1)) | (go_at_call 11; go_must (refine (still_any _ _ hl1).mono ?_; rintro e w2 ⟨rfl, rfl⟩)))
      go_roundw
      case rel => exact ⟨1, rfl, by omega, below_step hb1 hbel⟩
      case measure => simp [intOf]
    | 1, _ =>
      clear ho
      go_wp2
      go_ret
      exact ⟨hWb.trans (hbel.mono hWb.size), rfl⟩

theorem const_circle : ∀ p ∈ [((4607182418800017408 : Nat), (0 : Nat)), (0, 4607182418800017408), (13830554455654793216, 0), (0, 0)], p.1 < 2 ^ 64 ∧ p.2 < 2 ^ 64 := by decide

theorem box_circle {w W : World} {a b c d e f s t : Value} {o : Obj} (hb : Below (((((w.alloc (.cells #[a, b] 24)).alloc (.cells #[c, d] 24)).alloc (.cells #[e, f] 24)).alloc (.cells #[s, t] 24)).alloc o).heap.size (((((w.alloc (.cells #[a, b] 24)).alloc (.cells #[c, d] 24)).alloc (.cells #[e, f] 24)).alloc (.cells #[s, t] 24)).alloc o) W) :
    W.cell? ⟨w.heap.size, 0, none⟩ = some a ∧ W.cell? ⟨w.heap.size, 1, none⟩ = some b ∧ W.cell? ⟨w.heap.size + 1, 0, none⟩ = some c ∧ W.cell? ⟨w.heap.size + 1, 1, none⟩ = some d ∧ W.cell? ⟨w.heap.size + 1 + 1, 0, none⟩ = some e ∧ W.cell? ⟨w.heap.size + 1 + 1, 1, none⟩ = some f ∧ W.cell? ⟨w.heap.size + 1 + 1 + 1, 0, none⟩ = some s ∧ W.cell? ⟨w.heap.size + 1 + 1 + 1, 1, none⟩ = some t := by
  obtain ⟨hc, _⟩ := bcell hb
  rw [hc _ _ (by simp <;> omega), hc _ _ (by simp <;> omega), hc _ _ (by simp <;> omega), hc _ _ (by simp <;> omega), hc _ _ (by simp <;> omega), hc _ _ (by simp <;> omega), hc _ _ (by simp <;> omega), hc _ _ (by simp <;> omega)]
  simp [go_sem]

set_option maxHeartbeats 4000000 in
set_option maxRecDepth 100000 in
theorem circles_any (ax ay bx by' cx cy dx dy : Nat) (w : World) (h64 : ∀ p ∈ [(ax, ay), (bx, by'), (cx, cy), (dx, dy)], p.1 < 2 ^ 64 ∧ p.2 < 2 ^ 64) :
    Calls Tryz.prog 4 #[.agg #[.int .u64 ax, .int .u64 ay], .agg #[.int .u64 bx, .int .u64 by'], .agg #[.int .u64 cx, .int .u64 cy], .agg #[.int .u64 dx, .int .u64 dy]] w fun e w' => e = .returned (.bool true) ∧ Below w.heap.size w w' := by
  go_enter Tryz.func4, Tryz.ntmps4
  go_wp2_with (first | (go_at_call 8; have g1 := hb1; go_must (refine (plays_circle _ 1 ax ay bx by' cx cy dx dy _ (by simp) (by unfold Opcircle; simp [go_sem]) h64).mono ?_; rintro e w2 ⟨hb2, rfl⟩)) | (go_at_call 8; go_must (refine (plays_circle _ 1 4607182418800017408 0 0 4607182418800017408 13830554455654793216 0 0 0 _ (by simp) (by unfold Opcircle; simp [go_sem]) const_circle).mono ?_; rintro e w1 ⟨hb1, rfl⟩; have tb := box_circle hb1)))
  go_ret
  refine ⟨rfl, ?_⟩
  have h4 := below_step hb1 ((((((Below.refl _ w).alloc (Nat.le_refl _) _).alloc (by simp) _).alloc (by simp; omega) _).alloc (by simp; omega) _).alloc (by simp; omega) _)
  exact below_step hb2 (h4.alloc h4.size _)

end Go.Proofs.YtbjjkfmdkmbcfaaGreat
