import Derived.Test.YtbjjkfmdkmbcfaaGreatLb
namespace Go.Proofs.YtbjjkfmdkmbcfaaGreat
open Go.RowKit
open PlLv

attribute [local go_sem ↓] Go.wp_at_zero Go.wp_at_succ

set_option maxHeartbeats 2000000 in
set_option maxRecDepth 100000 in
theorem step_orient (pw : Option Addr) (ax ay bx by' cx cy : Nat) (w : World) (h64 : ∀ p ∈ [(ax, ay), (bx, by'), (cx, cy)], p.1 < 2 ^ 64 ∧ p.2 < 2 ^ 64) :
    Calls Tryz.prog 10 #[.pointer pw, .agg #[.int .i64 1, .int .u64 ax, .int .u64 ay, .int .u64 bx, .int .u64 by', .int .u64 cx, .int .u64 cy, .int .u64 0, .int .u64 0, .slice none 0 0]] w fun e w' => Below w.heap.size w w' ∧ e = .returned (.bool true) := by
  have HA : Hid (∀ W, Calls Tryz.prog 12 #[.agg #[.int .i64 1, .int .u64 ax, .int .u64 ay, .int .u64 bx, .int .u64 by', .int .u64 cx, .int .u64 cy, .int .u64 0, .int .u64 0, .slice none 0 0]] W fun e w' => Below W.heap.size W w' ∧ e = .returned (.bool true)) := fun W => by
    rcases hok : okPts [(ax, ay), (bx, by'), (cx, cy)] with _ | _
    · exact asked_orient_no ax ay bx by' cx cy W h64 hok
    · exact asked_orient_ok ax ay bx by' cx cy W h64 hok
  go_enter Tryz.func10, Tryz.ntmps10
  go_wp2_with (go_at_call 12; go_must (refine (HA.out _).mono ?_; rintro e w1 ⟨hb1, rfl⟩))
  go_ret
  exact ⟨below_step hb1 ((Below.refl _ w).alloc (Nat.le_refl _) _), rfl⟩

set_option maxHeartbeats 2000000 in
set_option maxRecDepth 100000 in
theorem step_nearer (pw : Option Addr) (ax ay bx by' cx cy : Nat) (w : World) (h64 : ∀ p ∈ [(ax, ay), (bx, by'), (cx, cy)], p.1 < 2 ^ 64 ∧ p.2 < 2 ^ 64) :
    Calls Tryz.prog 10 #[.pointer pw, .agg #[.int .i64 2, .int .u64 ax, .int .u64 ay, .int .u64 bx, .int .u64 by', .int .u64 cx, .int .u64 cy, .int .u64 0, .int .u64 0, .slice none 0 0]] w fun e w' => Below w.heap.size w w' ∧ e = .returned (.bool true) := by
  have HA : Hid (∀ W, Calls Tryz.prog 12 #[.agg #[.int .i64 2, .int .u64 ax, .int .u64 ay, .int .u64 bx, .int .u64 by', .int .u64 cx, .int .u64 cy, .int .u64 0, .int .u64 0, .slice none 0 0]] W fun e w' => Below W.heap.size W w' ∧ e = .returned (.bool true)) := fun W => by
    rcases hok : okPts [(ax, ay), (bx, by'), (cx, cy)] with _ | _
    · exact asked_nearer_no ax ay bx by' cx cy W h64 hok
    · exact asked_nearer_ok ax ay bx by' cx cy W h64 hok
  go_enter Tryz.func10, Tryz.ntmps10
  go_wp2_with (go_at_call 12; go_must (refine (HA.out _).mono ?_; rintro e w1 ⟨hb1, rfl⟩))
  go_ret
  exact ⟨below_step hb1 ((Below.refl _ w).alloc (Nat.le_refl _) _), rfl⟩

set_option maxHeartbeats 400000 in
theorem still_any (b : Nat) (w : World) (hc : w.cell? ⟨b, 0, none⟩ = some (.slice none 0 0)) : Calls Tryz.prog 11 #[.pointer (some ⟨b, 0, none⟩)] w fun e w' => e = .returned (.bool true) ∧ w' = w := by
  go_enter Tryz.func11, Tryz.ntmps11
  go_wp2
  refine wp_loop_rounds 1 ?_
  rw [rounds_succ]
  go_wp2
  go_ret
  exact ⟨rfl, rfl⟩

/-- The two steps of a play, as they lie in memory. -/
def Ops2 (w : World) (g : Nat) (ax ay bx by' cx cy ax2 ay2 bx2 by2' cx2 cy2 : Nat) : Prop := ((w.cell? ⟨g, 0, none⟩ = some (.int .i64 1) ∧ w.cell? ⟨g, 1, none⟩ = some (.int .u64 ax) ∧ w.cell? ⟨g, 2, none⟩ = some (.int .u64 ay) ∧ w.cell? ⟨g, 3, none⟩ = some (.int .u64 bx) ∧ w.cell? ⟨g, 4, none⟩ = some (.int .u64 by') ∧ w.cell? ⟨g, 5, none⟩ = some (.int .u64 cx) ∧ w.cell? ⟨g, 6, none⟩ = some (.int .u64 cy) ∧ w.cell? ⟨g, 7, none⟩ = some (.int .u64 0) ∧ w.cell? ⟨g, 8, none⟩ = some (.int .u64 0) ∧ w.cell? ⟨g, 9, none⟩ = some (.slice none 0 0)) ∧ (w.cell? ⟨g, 10, none⟩ = some (.int .i64 2) ∧ w.cell? ⟨g, 11, none⟩ = some (.int .u64 ax2) ∧ w.cell? ⟨g, 12, none⟩ = some (.int .u64 ay2) ∧ w.cell? ⟨g, 13, none⟩ = some (.int .u64 bx2) ∧ w.cell? ⟨g, 14, none⟩ = some (.int .u64 by2') ∧ w.cell? ⟨g, 15, none⟩ = some (.int .u64 cx2) ∧ w.cell? ⟨g, 16, none⟩ = some (.int .u64 cy2) ∧ w.cell? ⟨g, 17, none⟩ = some (.int .u64 0) ∧ w.cell? ⟨g, 18, none⟩ = some (.int .u64 0) ∧ w.cell? ⟨g, 19, none⟩ = some (.slice none 0 0)))

theorem Ops2.kept {w w' : World} {g : Nat} {ax ay bx by' cx cy ax2 ay2 bx2 by2' cx2 cy2 : Nat} (h : Ops2 w g ax ay bx by' cx cy ax2 ay2 bx2 by2' cx2 cy2) (hg : g < w.heap.size) (hb : Below w.heap.size w w') : Ops2 w' g ax ay bx by' cx cy ax2 ay2 bx2 by2' cx2 cy2 := by
  have hc : ∀ j, w'.cell? ⟨g, j, none⟩ = w.cell? ⟨g, j, none⟩ := fun j => hb.cell (p := ⟨g, j, none⟩) hg
  unfold Ops2
  simp only [hc]
  exact h

set_option maxHeartbeats 4000000 in
set_option maxRecDepth 100000 in
theorem plays_any (g c : Nat) (ax ay bx by' cx cy ax2 ay2 bx2 by2' cx2 cy2 : Nat) (w : World) (hg : g < w.heap.size) (hops : Ops2 w g ax ay bx by' cx cy ax2 ay2 bx2 by2' cx2 cy2) (h64 : ∀ p ∈ [(ax, ay), (bx, by'), (cx, cy)], p.1 < 2 ^ 64 ∧ p.2 < 2 ^ 64) (h642 : ∀ p ∈ [(ax2, ay2), (bx2, by2'), (cx2, cy2)], p.1 < 2 ^ 64 ∧ p.2 < 2 ^ 64) :
    Calls Tryz.prog 8 #[.slice (some ⟨g, 0, none⟩) 2 c, .int .i64 2] w fun e w' => Below w.heap.size w w' ∧ e = .returned (.bool true) := by
  go_enter Tryz.func8, Tryz.ntmps8
  go_wp2
  generalize hW : World.alloc w _ = W
  have hWb : Below w.heap.size w W := by subst hW; exact (Below.refl _ _).alloc (Nat.le_refl _) _
  have hWs : w.heap.size < W.heap.size := by subst hW; simp
  have hW0 : W.cell? ⟨w.heap.size, 0, none⟩ = some (.slice none 0 0) := by subst hW; simp [go_sem]
  have hgW : g < W.heap.size := by omega
  have hopsW := hops.kept hg hWb
  clear hW hops
  go_loopw [6] (fun si wr => ∃ k : Nat, si = .int .i64 k ∧ k ≤ 2 ∧ Below W.heap.size W wr) (fun si _ => 2 - (intOf si).toNat)
  case atStart => exact ⟨0, rfl, by omega, Below.refl _ _⟩
  case round =>
    obtain ⟨k, rfl, hk, hbel⟩ := hrel
    have hl0 : wr.cell? ⟨w.heap.size, 0, none⟩ = some (.slice none 0 0) := (hbel.cell (p := ⟨w.heap.size, 0, none⟩) hWs).trans hW0
    have KL : Hid (∀ W', Below wr.heap.size wr W' → W'.cell? ⟨w.heap.size, 0, none⟩ = some (.slice none 0 0)) := fun W' h => ((bcell h).1 _ _ (Nat.lt_of_lt_of_le hWs hbel.size)).trans hl0
    have ho := hopsW.kept hgW hbel
    unfold Ops2 at ho
    obtain ⟨⟨p0, p1, p2, p3, p4, p5, p6, p7, p8, p9⟩, ⟨q0, q1, q2, q3, q4, q5, q6, q7, q8, q9⟩⟩ := ho
    match k, hk with
    | 0, _ =>
      clear q0 q1 q2 q3 q4 q5 q6 q7 q8 q9
      go_wp2_with (first | (go_at_call 10; go_must (refine (step_orient _ ax ay bx by' cx cy _ h64).mono ?_; rintro e w1 ⟨hb1, rfl⟩; have hl1 := KL.out w1 hb1)) | (go_at_call 11; go_must (refine (still_any _ _ hl1).mono ?_; rintro e w2 ⟨rfl, rfl⟩)))
      go_roundw
      case rel => exact ⟨1, rfl, by omega, below_step hb1 hbel⟩
      case measure => simp [intOf]
    | 1, _ =>
      clear p0 p1 p2 p3 p4 p5 p6 p7 p8 p9
      go_wp2_with (first | (go_at_call 10; go_must (refine (step_nearer _ ax2 ay2 bx2 by2' cx2 cy2 _ h642).mono ?_; rintro e w1 ⟨hb1, rfl⟩; have hl1 := KL.out w1 hb1)) | (go_at_call 11; go_must (refine (still_any _ _ hl1).mono ?_; rintro e w2 ⟨rfl, rfl⟩)))
      go_roundw
      case rel => exact ⟨2, rfl, by omega, below_step hb1 hbel⟩
      case measure => simp [intOf]
    | 2, _ =>
      go_wp2
      go_ret
      exact ⟨hWb.trans (hbel.mono hWb.size), rfl⟩

end Go.Proofs.YtbjjkfmdkmbcfaaGreat
