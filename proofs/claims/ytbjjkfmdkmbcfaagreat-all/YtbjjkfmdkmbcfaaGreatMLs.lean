import Derived.Test.YtbjjkfmdkmbcfaaGreatMLb
import Derived.Test.YtbjjkfmdkmbcfaaGreatMAa
namespace Go.Proofs.YtbjjkfmdkmbcfaaGreat
open Go.RowKit
open PlLv

attribute [local go_sem ↓] Go.wp_at_zero Go.wp_at_succ

set_option maxHeartbeats 2000000 in
set_option maxRecDepth 100000 in
theorem step_orient (pw : Option Addr) (ax ay bx by' cx cy : Nat) (w : World) (h64 : ∀ p ∈ [(ax, ay), (bx, by'), (cx, cy)], p.1 < 2 ^ 64 ∧ p.2 < 2 ^ 64) :
    Calls Tryz.prog 10 #[.pointer pw, .agg #[.int .i64 1, .int .u64 ax, .int .u64 ay, .int .u64 bx, .int .u64 by', .int .u64 cx, .int .u64 cy, .int .u64 0, .int .u64 0, .slice none 0 0]] w fun e w' => Below w.heap.size w w' ∧ e = .returned (.bool true) := by
  have HA : Hid (∀ W, Calls Tryz.prog 12 #[.agg #[.int .i64 1, .int .u64 ax, .int .u64 ay, .int .u64 bx, .int .u64 by', .int .u64 cx, .int .u64 cy, .int .u64 0, .int .u64 0, .slice none 0 0]] W fun e w' => Below W.heap.size W w' ∧ e = .returned (.bool true)) := fun W => by
    rcases hok : okPts [(ax, ay), (bx, by'), (cx, cy)] with _ | _
    · exact asked_orient_no ax ay bx by' cx cy W h64 hok
    · exact asked_orient_ok ax ay bx by' cx cy W h64 hok
  go_enter Tryz.func10, Tryz.ntmps10
  go_wp2_with (go_at_call 12; go_must (refine (HA.out _).mono ?_; rintro e w1 ⟨hb1, rfl⟩))
  go_ret
  exact ⟨below_step hb1 ((Below.refl _ w).alloc (Nat.le_refl _) _), rfl⟩

set_option maxHeartbeats 2000000 in
set_option maxRecDepth 100000 in
theorem step_nearer (pw : Option Addr) (ax ay bx by' cx cy : Nat) (w : World) (h64 : ∀ p ∈ [(ax, ay), (bx, by'), (cx, cy)], p.1 < 2 ^ 64 ∧ p.2 < 2 ^ 64) :
    Calls Tryz.prog 10 #[.pointer pw, .agg #[.int .i64 2, .int .u64 ax, .int .u64 ay, .int .u64 bx, .int .u64 by', .int .u64 cx, .int .u64 cy, .int .u64 0, .int .u64 0, .slice none 0 0]] w fun e w' => Below w.heap.size w w' ∧ e = .returned (.bool true) := by
  have HA : Hid (∀ W, Calls Tryz.prog 12 #[.agg #[.int .i64 2, .int .u64 ax, .int .u64 ay, .int .u64 bx, .int .u64 by', .int .u64 cx, .int .u64 cy, .int .u64 0, .int .u64 0, .slice none 0 0]] W fun e w' => Below W.heap.size W w' ∧ e = .returned (.bool true)) := fun W => by
    rcases hok : okPts [(ax, ay), (bx, by'), (cx, cy)] with _ | _
    · exact asked_nearer_no ax ay bx by' cx cy W h64 hok
    · exact asked_nearer_ok ax ay bx by' cx cy W h64 hok
  go_enter Tryz.func10, Tryz.ntmps10
  go_wp2_with (go_at_call 12; go_must (refine (HA.out _).mono ?_; rintro e w1 ⟨hb1, rfl⟩))
  go_ret
  exact ⟨below_step hb1 ((Below.refl _ w).alloc (Nat.le_refl _) _), rfl⟩

set_option maxHeartbeats 400000 in
theorem still_any (b : Nat) (w : World) (hc : w.cell? ⟨b, 0, none⟩ = some (.slice none 0 0)) : Calls Tryz.prog 11 #[.pointer (some ⟨b, 0, none⟩)] w fun e w' => e = .returned (.bool true) ∧ w' = w := by
  go_enter Tryz.func11, Tryz.ntmps11
  go_wp2
  refine wp_loop_rounds 1 ?_
  rw [rounds_succ]
  go_wp2
  go_ret
  exact ⟨rfl, rfl⟩

/-- The two steps of a play, as they lie in memory. -/
def Ops2 (w : World) (g : Nat) (ax ay bx by' cx cy ax2 ay2 bx2 by2' cx2 cy2 : Nat) : Prop := ((w.cell? ⟨g, 0, none⟩ = some (.int .i64 1) ∧ w.cell? ⟨g, 1, none⟩ = some (.int .u64 ax) ∧ w.cell? ⟨g, 2, none⟩ = some (.int .u64 ay) ∧ w.cell? ⟨g, 3, none⟩ = some (.int .u64 bx) ∧ w.cell? ⟨g, 4, none⟩ = some (.int .u64 by') ∧ w.cell? ⟨g, 5, none⟩ = some (.int .u64 cx) ∧ w.cell? ⟨g, 6, none⟩ = some (.int .u64 cy) ∧ w.cell? ⟨g, 7, none⟩ = some (.int .u64 0) ∧ w.cell? ⟨g, 8, none⟩ = some (.int .u64 0) ∧ w.cell? ⟨g, 9, none⟩ = some (.slice none 0 0)) ∧ (w.cell? ⟨g, 10, none⟩ = some (.int .i64 2) ∧ w.cell? ⟨g, 11, none⟩ = some (.int .u64 ax2) ∧ w.cell? ⟨g, 12, none⟩ = some (.int .u64 ay2) ∧ w.cell? ⟨g, 13, none⟩ = some (.int .u64 bx2) ∧ w.cell? ⟨g, 14, none⟩ = some (.int .u64 by2') ∧ w.cell? ⟨g, 15, none⟩ = some (.int .u64 cx2) ∧ w.cell? ⟨g, 16, none⟩ = some (.int .u64 cy2) ∧ w.cell? ⟨g, 17, none⟩ = some (.int .u64 0) ∧ w.cell? ⟨g, 18, none⟩ = some (.int .u64 0) ∧ w.cell? ⟨g, 19, none⟩ = some (.slice none 0 0)))

theorem Ops2.kept {w w' : World} {g : Nat} {ax ay bx by' cx cy ax2 ay2 bx2 by2' cx2 cy2 : Nat} (h : Ops2 w g ax ay bx by' cx cy ax2 ay2 bx2 by2' cx2 cy2) (hg : g < w.heap.size) (hb : Below w.heap.size w w') : Ops2 w' g ax ay bx by' cx cy ax2 ay2 bx2 by2' cx2 cy2 := by
  have hc : ∀ j, w'.cell? ⟨g, j, none⟩ = w.cell? ⟨g, j, none⟩ := fun j => hb.cell (p := ⟨g, j, none⟩) hg
  unfold Ops2
  simp only [hc]
  exact h

set_option maxHeartbeats 4000000 in
set_option maxRecDepth 100000 in
theorem plays_any (g c : Nat) (ax ay bx by' cx cy ax2 ay2 bx2 by2' cx2 cy2 : Nat) (w : World) (hg : g < w.heap.size) (hops : Ops2 w g ax ay bx by' cx cy ax2 ay2 bx2 by2' cx2 cy2) (h64 : ∀ p ∈ [(ax, ay), (bx, by'), (cx, cy)], p.1 < 2 ^ 64 ∧ p.2 < 2 ^ 64) (h642 : ∀ p ∈ [(ax2, ay2), (bx2, by2'), (cx2, cy2)], p.1 < 2 ^ 64 ∧ p.2 < 2 ^ 64) :
    Calls Tryz.prog 8 #[.slice (some ⟨g, 0, none⟩) 2 c, .int .i64 2] w fun e w' => Below w.heap.size w w' ∧ e = .returned (.bool true) := by
  go_enter Tryz.func8, Tryz.ntmps8
  go_wp2
  generalize hW : World.alloc w _ = W
  have hWb : Below w.heap.size w W := by subst hW; exact (Below.refl _ _).alloc (Nat.le_refl _) _
  have hWs : w.heap.size < W.heap.size := by subst hW; simp
  have hW0 : W.cell? ⟨w.heap.size, 0, none⟩ = some (.slice none 0 0) := by subst hW; simp [go_sem]
  have hgW : g < W.heap.size := by omega
  have hopsW := hops.kept hg hWb
  clear hW hops
  go_loopw [6] (fun si wr => ∃ k : Nat, si = .int .i64 k ∧ k ≤ 2 ∧ Below W.heap.size W wr) (fun si _ => 2 - (intOf si).toNat)
  case atStart => exact ⟨0, rfl, by omega, Below.refl _ _⟩
  case round =>
    obtain ⟨k, rfl, hk, hbel⟩ := hrel
    have hl0 : wr.cell? ⟨w.heap.size, 0, none⟩ = some (.slice none 0 0) := (hbel.cell (p := ⟨w.heap.size, 0, none⟩) hWs).trans hW0
    have KL : Hid (∀ W', Below wr.heap.size wr W' → W'.cell? ⟨w.heap.size, 0, none⟩ = some (.slice none 0 0)) := fun W' h => ((bcell h).1 _ _ (Nat.lt_of_lt_of_le hWs hbel.size)).trans hl0
    have ho := hopsW.kept hgW hbel
    unfold Ops2 at ho
    obtain ⟨⟨p0, p1, p2, p3, p4, p5, p6, p7, p8, p9⟩, ⟨q0, q1, q2, q3, q4, q5, q6, q7, q8, q9⟩⟩ := ho
    match k, hk with
    | 0, _ =>
      clear q0 q1 q2 q3 q4 q5 q6 q7 q8 q9
      go_wp2_with (first | (go_at_call 10; go_must (refine (step_orient _ ax ay bx by' cx cy _ h64).mono ?_; rintro e w1 ⟨hb1, rfl⟩; have hl1 := KL.out w1 hb1)) | (go_at_call 11; go_must (refine (still_any _ _ hl1).mono ?_; rintro e w2 ⟨rfl, rfl⟩)))
      go_roundw
      case rel => exact ⟨1, rfl, by omega, below_step hb1 hbel⟩
      case measure => simp [intOf]
    | 1, _ =>
      clear p0 p1 p2 p3 p4 p5 p6 p7 p8 p9
      go_wp2_with (first | (go_at_call 10; go_must (refine (step_nearer _ ax2 ay2 bx2 by2' cx2 cy2 _ h642).mono ?_; rintro e w1 ⟨hb1, rfl⟩; have hl1 := KL.out w1 hb1)) | (go_at_call 11; go_must (refine (still_any _ _ hl1).mono ?_; rintro e w2 ⟨rfl, rfl⟩)))
      go_roundw
      case rel => exact ⟨2, rfl, by omega, below_step hb1 hbel⟩
      case measure => simp [intOf]
    | 2, _ =>
      go_wp2
      go_ret
      exact ⟨hWb.trans (hbel.mono hWb.size), rfl⟩

end Go.Proofs.YtbjjkfmdkmbcfaaGreat

namespace Go.Proofs.YtbjjkfmdkmbcfaaGreat
open Go.RowKit
open PlLv

attribute [local go_sem ↓] Go.wp_at_zero Go.wp_at_succ

theorem inlaw_any (sp : Option Addr) (n sc ax ay bx by' cx cy dx dy : Nat) (ps : List (Nat × Nat)) (w : World) (hv : SrcAt w (.slice sp n sc) n ps) (hn : ps.length = n) (hnb : n ≤ 8796093021952) (h64 : ∀ p ∈ ps, p.1 < 2 ^ 64 ∧ p.2 < 2 ^ 64) (hp64 : ∀ p ∈ [(ax, ay)], p.1 < 2 ^ 64 ∧ p.2 < 2 ^ 64) :
    Calls Tryz.prog 13 #[.agg #[.int .i64 5, .int .u64 ax, .int .u64 ay, .int .u64 bx, .int .u64 by', .int .u64 cx, .int .u64 cy, .int .u64 dx, .int .u64 dy, .slice sp n sc]] w fun e w' => Below w.heap.size w w' ∧ e = .returned (.bool true) := by
  rcases sp with _ | ad
  · have hz : n = 0 ∧ sc = 0 := by
      rcases hv with ⟨h1, h2⟩ | ⟨a, h1, h2⟩ | ⟨g, off, c, h1, hg, hp⟩
      · simp at h1; omega
      · simp at h1
      · simp at h1
    obtain ⟨rfl, rfl⟩ := hz
    have hok : okPts ps = true := by
      have hps : ps = [] := List.eq_nil_of_length_eq_zero hn
      subst hps
      rfl
    rcases hpk : okPts [(ax, ay)] with _ | _
    · exact inlaw_no2nil ax ay bx by' cx cy dx dy ps w hn h64 hp64 hok hpk
    · exact inlaw_oknil ax ay bx by' cx cy dx dy ps w hn h64 hp64 hok hpk
  · by_cases hm : 100 < n
    · exact inlaw_many ad sc n ax ay bx by' cx cy dx dy ps w hv hn hm hnb
    · rcases hok : okPts ps with _ | _ <;> rcases hpk : okPts [(ax, ay)] with _ | _
      · exact inlaw_no1n ad sc n ax ay bx by' cx cy dx dy ps w hv hn (by omega) h64 hp64 hok hpk
      · exact inlaw_no1y ad sc n ax ay bx by' cx cy dx dy ps w hv hn (by omega) h64 hp64 hok hpk
      · exact inlaw_no2 ad sc n ax ay bx by' cx cy dx dy ps w hv hn (by omega) h64 hp64 hok hpk
      · exact inlaw_ok ad sc n ax ay bx by' cx cy dx dy ps w hv hn (by omega) h64 hp64 hok hpk

set_option maxHeartbeats 2000000 in
set_option maxRecDepth 100000 in
theorem step_inside (pw : Option Addr) (sp : Option Addr) (n sc ax ay bx by' cx cy dx dy : Nat) (ps : List (Nat × Nat)) (w : World) (hv : SrcAt w (.slice sp n sc) n ps) (hn : ps.length = n) (hnb : n ≤ 8796093021952) (h64 : ∀ p ∈ ps, p.1 < 2 ^ 64 ∧ p.2 < 2 ^ 64) (hp64 : ∀ p ∈ [(ax, ay)], p.1 < 2 ^ 64 ∧ p.2 < 2 ^ 64) :
    Calls Tryz.prog 10 #[.pointer pw, .agg #[.int .i64 5, .int .u64 ax, .int .u64 ay, .int .u64 bx, .int .u64 by', .int .u64 cx, .int .u64 cy, .int .u64 dx, .int .u64 dy, .slice sp n sc]] w fun e w' => Below w.heap.size w w' ∧ e = .returned (.bool true) := by
  have HV : Hid (∀ o : Obj, SrcAt (w.alloc o) (.slice sp n sc) n ps) := fun o => hv.kept ((Below.refl _ w).alloc (Nat.le_refl _) o)
  clear hv
  go_enter Tryz.func10, Tryz.ntmps10
  go_wp2_with (go_at_call 13; go_must (refine (inlaw_any sp n sc ax ay bx by' cx cy dx dy ps _ (HV.out _) hn hnb h64 hp64).mono ?_; rintro e w1 ⟨hb1, rfl⟩))
  go_ret
  exact ⟨below_step hb1 ((Below.refl _ w).alloc (Nat.le_refl _) _), rfl⟩

/-- The one step of a play, as it lies in memory. -/
def OpIn (w : World) (g : Nat) (sp : Option Addr) (n sc ax ay : Nat) : Prop := w.cell? ⟨g, 0, none⟩ = some (.int .i64 5) ∧ w.cell? ⟨g, 1, none⟩ = some (.int .u64 ax) ∧ w.cell? ⟨g, 2, none⟩ = some (.int .u64 ay) ∧ w.cell? ⟨g, 3, none⟩ = some (.int .u64 0) ∧ w.cell? ⟨g, 4, none⟩ = some (.int .u64 0) ∧ w.cell? ⟨g, 5, none⟩ = some (.int .u64 0) ∧ w.cell? ⟨g, 6, none⟩ = some (.int .u64 0) ∧ w.cell? ⟨g, 7, none⟩ = some (.int .u64 0) ∧ w.cell? ⟨g, 8, none⟩ = some (.int .u64 0) ∧ w.cell? ⟨g, 9, none⟩ = some (.slice sp n sc)

theorem OpIn.kept {w w' : World} {g : Nat} {sp : Option Addr} {n sc ax ay : Nat} (h : OpIn w g sp n sc ax ay) (hg : g < w.heap.size) (hb : Below w.heap.size w w') : OpIn w' g sp n sc ax ay := by
  have hc : ∀ j, w'.cell? ⟨g, j, none⟩ = w.cell? ⟨g, j, none⟩ := fun j => hb.cell (p := ⟨g, j, none⟩) hg
  unfold OpIn
  simp only [hc]
  exact h

set_option maxHeartbeats 4000000 in
set_option maxRecDepth 100000 in
theorem plays_inside (g c : Nat) (sp : Option Addr) (n sc ax ay : Nat) (ps : List (Nat × Nat)) (w : World) (hg : g < w.heap.size) (hops : OpIn w g sp n sc ax ay) (hv : SrcAt w (.slice sp n sc) n ps) (hn : ps.length = n) (hnb : n ≤ 8796093021952) (h64 : ∀ p ∈ ps, p.1 < 2 ^ 64 ∧ p.2 < 2 ^ 64) (hp64 : ∀ p ∈ [(ax, ay)], p.1 < 2 ^ 64 ∧ p.2 < 2 ^ 64) :
    Calls Tryz.prog 8 #[.slice (some ⟨g, 0, none⟩) 1 c, .int .i64 5] w fun e w' => Below w.heap.size w w' ∧ e = .returned (.bool true) := by
  go_enter Tryz.func8, Tryz.ntmps8
  go_wp2
  generalize hW : World.alloc w _ = W
  have hWb : Below w.heap.size w W := by subst hW; exact (Below.refl _ _).alloc (Nat.le_refl _) _
  have hWs : w.heap.size < W.heap.size := by subst hW; simp
  have hW0 : W.cell? ⟨w.heap.size, 0, none⟩ = some (.slice none 0 0) := by subst hW; simp [go_sem]
  have hgW : g < W.heap.size := by omega
  have hopsW := hops.kept hg hWb
  have hvW := hv.kept hWb
  clear hW hops hv
  go_loopw [6] (fun si wr => ∃ k : Nat, si = .int .i64 k ∧ k ≤ 1 ∧ Below W.heap.size W wr) (fun si _ => 1 - (intOf si).toNat)
  case atStart => exact ⟨0, rfl, by omega, Below.refl _ _⟩
  case round =>
    obtain ⟨k, rfl, hk, hbel⟩ := hrel
    have hl0 : wr.cell? ⟨w.heap.size, 0, none⟩ = some (.slice none 0 0) := (hbel.cell (p := ⟨w.heap.size, 0, none⟩) hWs).trans hW0
    have KL : Hid (∀ W', Below wr.heap.size wr W' → W'.cell? ⟨w.heap.size, 0, none⟩ = some (.slice none 0 0)) := fun W' h => ((bcell h).1 _ _ (Nat.lt_of_lt_of_le hWs hbel.size)).trans hl0
    have HV : Hid (SrcAt wr (.slice sp n sc) n ps) := hvW.kept hbel
    have ho := hopsW.kept hgW hbel
    unfold OpIn at ho
    match k, hk with
    | 0, _ =>
      go_wp2_with (first | (go_at_call 10; go_must (refine (step_inside _ sp n sc ax ay 0 0 0 0 0 0 ps _ HV.out hn hnb h64 hp64).mono ?_; rintro e w1 ⟨hb1, rfl⟩; have hl1 := KL.out w1 hb1)) | (go_at_call 11; go_must (refine (still_any _ _ hl1).mono ?_; rintro e w2 ⟨rfl, rfl⟩)))
      go_roundw
      case rel => exact ⟨1, rfl, by omega, below_step hb1 hbel⟩
      case measure => simp [intOf]
    | 1, _ =>
      clear ho
      go_wp2
      go_ret
      exact ⟨hWb.trans (hbel.mono hWb.size), rfl⟩

/-- The document's square. -/
def sqPts : List (Nat × Nat) := [(0, 0), (4616189618054758400, 0), (4616189618054758400, 4616189618054758400), (0, 4616189618054758400)]

theorem sq64 : ∀ p ∈ sqPts, p.1 < 2 ^ 64 ∧ p.2 < 2 ^ 64 := by decide
theorem one64 : ∀ p ∈ [((4607182418800017408 : Nat), (4607182418800017408 : Nat))], p.1 < 2 ^ 64 ∧ p.2 < 2 ^ 64 := by decide

set_option maxHeartbeats 1000000 in
theorem lawsquare_any (w : World) : Calls Tryz.prog 9 #[] w fun e w' => e = .returned (.slice (some ⟨w.heap.size, 0, none⟩) 4 4) ∧ SrcAt w' (.slice (some ⟨w.heap.size, 0, none⟩) 4 4) 4 sqPts ∧ Below w.heap.size w w' := by
  go_enter Tryz.func9, Tryz.ntmps9
  go_wp2
  go_ret
  refine ⟨rfl, .inr (.inr ⟨_, 0, _, rfl, by simp, fun t ht => ?_⟩), (Below.refl _ w).alloc (Nat.le_refl _) _⟩
  match t, ht with
  | 0, _ => exact ⟨by simp [go_sem, sqPts], by simp [go_sem, sqPts]⟩
  | 1, _ => exact ⟨by simp [go_sem, sqPts], by simp [go_sem, sqPts]⟩
  | 2, _ => exact ⟨by simp [go_sem, sqPts], by simp [go_sem, sqPts]⟩
  | 3, _ => exact ⟨by simp [go_sem, sqPts], by simp [go_sem, sqPts]⟩

set_option maxHeartbeats 4000000 in
set_option maxRecDepth 100000 in
theorem insides_any (sp : Option Addr) (n sc px py : Nat) (ps : List (Nat × Nat)) (w : World) (hv : SrcAt w (.slice sp n sc) n ps) (hn : ps.length = n) (hnb : n ≤ 8796093021952) (h64 : ∀ p ∈ ps, p.1 < 2 ^ 64 ∧ p.2 < 2 ^ 64) (hp64 : ∀ p ∈ [(px, py)], p.1 < 2 ^ 64 ∧ p.2 < 2 ^ 64) :
    Calls Tryz.prog 6 #[.slice sp n sc, .agg #[.int .u64 px, .int .u64 py]] w fun e w' => e = .returned (.bool true) ∧ Below w.heap.size w w' := by
  go_enter Tryz.func6, Tryz.ntmps6
  go_upto_region 1 with fail
  generalize hW : World.alloc w _ = W
  have hWs : W.heap.size = w.heap.size + 1 := by subst hW; simp
  have hw : Below w.heap.size w W := by subst hW; exact (Below.refl _ _).alloc (Nat.le_refl _) _
  have KS : ∀ w', Below W.heap.size W w' → (w'.cell? ⟨w.heap.size, 0, none⟩ = some (.int .u64 px) ∧ w'.cell? ⟨w.heap.size, 1, none⟩ = some (.int .u64 py)) := by
    intro w' hb
    obtain ⟨hc, _⟩ := bcell hb
    refine ⟨?_, ?_⟩
    all_goals (rw [hc _ _ (by omega)]; subst hW; simp [go_sem])
  have HV : Hid (∀ w', Below W.heap.size W w' → SrcAt w' (.slice sp n sc) n ps) := fun w' hb => hv.kept (hw.trans (hb.mono hw.size))
  clear hW hWs hv
  go_wp2_with (first
    | (go_at_call 9; go_must (refine (lawsquare_any _).mono ?_; rintro e w1 ⟨rfl, hq1, hb1⟩))
    | (go_at_call 8; have g2 := hb2; go_must (refine (plays_inside _ 1 sp n sc px py ps _ (by simp) (by unfold OpIn; simp [go_sem]) (HV.out _ (below_alloc _ hW2)) hn hnb h64 hp64).mono ?_; rintro e w3 ⟨hb3, rfl⟩; have hW3 : Below W.heap.size W w3 := below_step hb3 (below_alloc _ hW2)))
    | (go_at_call 8; go_must (refine (plays_inside _ 1 _ 4 4 4607182418800017408 4607182418800017408 sqPts _ (by simp) (by unfold OpIn; simp [go_sem]) (hq1.kept ((Below.refl _ _).alloc (Nat.le_refl _) _)) rfl (by omega) sq64 one64).mono ?_; rintro e w2 ⟨hb2, rfl⟩; have hW2 : Below W.heap.size W w2 := below_step hb2 (below_alloc _ hb1); have hS2 := KS w2 hW2)))
  go_ret
  exact ⟨rfl, hw.trans (hW3.mono hw.size)⟩

end Go.Proofs.YtbjjkfmdkmbcfaaGreat
