import Derived.Test.YtbjjkfmdkmbcfaaGreatMAh
import Derived.Test.YtbjjkfmdkmbcfaaGreatMNw
import Derived.Deep.LoopGhost
import Derived.Deep.DeepCutAuto
import Derived.Deep.RegionHeld3
import Derived.Test.YtbjjkfmdkmbcfaaGreatMAs
import Derived.Test.YtbjjkfmdkmbcfaaGreatMAd
namespace Go.Proofs.YtbjjkfmdkmbcfaaGreat
open Go.RowKit



theorem Mks.max {w : World} {base : Nat} {v : Value} {n : Nat} {M : Value} (h : Mks w base v n M) : n ≤ 9223372036854775807 := by
  rcases h.2 with ⟨_, h2⟩ | ⟨g, cap, cur, h1, _, _, h2, h3, _⟩
  · omega
  · unfold maxLen at h3; omega

set_option maxHeartbeats 4000000 in
set_option maxRecDepth 100000 in
/-- Behind every step all lists read as they were written. -/
theorem still_bk (base box : Nat) (lv : Value) (ls : List Value) (w : World) (h : Bk w base box lv ls) (hlen : ls.length ≤ 5864062014804) :
    Calls Tryz.prog 11 #[.pointer (some ⟨box, 0, none⟩)] w fun e w' => e = .returned (.bool true) ∧ w' = w := by
  obtain ⟨o, c, rfl⟩ := h.form
  have hbx := h.cell
  obtain ⟨N, hN⟩ : ∃ N, N = ls.length := ⟨_, rfl⟩
  have HE : Hid (∀ i, i < N → ∃ g0, o = some ⟨g0, 0, none⟩ ∧ ∃ p n q, w.cell? ⟨g0, i, none⟩ = some (.slice p n q) ∧ n ≤ 9223372036854775807 ∧ (n ≠ 0 → ∃ g1, p = some ⟨g1, 0, none⟩ ∧ ∀ j, j < n → w.cell? ⟨g1, j, none⟩ = some (mkV i))) := by
    intro i hi
    rw [hN] at hi
    obtain ⟨g, c', hv, _, hc⟩ := h.cells (by omega)
    simp only [Value.slice.injEq] at hv
    obtain ⟨n, hn⟩ := h.each i hi
    obtain ⟨p, q, hf⟩ := hn.form
    refine ⟨g, hv.1, p, n, q, by rw [hc i hi, hf], hn.max, fun h0 => ?_⟩
    obtain ⟨g1, c1, hv1, _, hc1⟩ := hn.cells h0
    rw [hf] at hv1
    simp only [Value.slice.injEq] at hv1
    exact ⟨g1, hv1.1, hc1⟩
  rw [← hN] at hbx hlen
  clear hN h
  go_enter Tryz.func11, Tryz.ntmps11
  go_wp2
  go_loopg [3] N (fun g s3 wr => ∃ i : Nat, i + g = N ∧ s3 = .int .i64 i ∧ wr = w)
  case atStart => exact ⟨0, Nat.zero_add _, rfl, rfl⟩
  case round =>
    obtain ⟨i, hig, rfl, rfl⟩ := hrel
    by_cases hlt : i < N
    · obtain ⟨g0, rfl, p, n, q, hrow, hnm, hmk⟩ := HE.out i hlt
      have HM : Hid (n ≠ 0 → ∃ g1, p = some ⟨g1, 0, none⟩ ∧ ∀ j, j < n → wr.cell? ⟨g1, j, none⟩ = some (mkV i)) := hmk
      clear hmk
      go_wp2_with fail
      go_loopw [4] (fun s4 wr2 => ∃ j : Nat, j ≤ n ∧ s4 = .int .i64 j ∧ wr2 = wr) (fun s4 _ => n - (intOf s4).toNat)
      case atStart => exact ⟨0, Nat.zero_le _, rfl, rfl⟩
      case round =>
        obtain ⟨j, hj, rfl, rfl⟩ := hrel
        by_cases hjn : j < n
        · obtain ⟨g1, rfl, hcs⟩ := HM.out (by omega)
          have hcj := hcs j hjn
          clear hcs
          unfold mkV at hcj
          have hq : Int.tdiv (i : Int) 4 = ((i / 4 : Nat) : Int) := rfl
          go_wp2_with fail
          go_roundw
          case rel => exact ⟨j + 1, by omega, by go_num, by first | rfl | trivial⟩
          case measure => simp [intOf]; omega
        · have hjn : j = n := by omega
          subst hjn
          go_wp2_with fail
          go_roundg (N - (i + 1))
          case measure => omega
          case rel => exact ⟨i + 1, by omega, by go_num, rfl⟩
    · have hiN : i = N := by omega
      subst hiN
      go_wp2
      go_ret
      exact ⟨rfl, rfl⟩

end Go.Proofs.YtbjjkfmdkmbcfaaGreat

namespace Go.Proofs.YtbjjkfmdkmbcfaaGreat
open Go.RowKit
open PlLv

attribute [local go_sem ↓] Go.wp_at_zero Go.wp_at_succ

/-- What a step does. -/
def StepOk : Prop := ∀ (base box q : Nat) (lv : Value) (ls : List Value) (k : Int) (ax ay bx bY cx cy dx dy : Nat) (lo : Option Addr) (ln lc : Nat) (ps : List (Nat × Nat)) (w : World), OpOk w ⟨k, ax, ay, bx, bY, cx, cy, dx, dy, lo, ln, lc, ps⟩ → Bk w base box lv ls → ls.length = 4 * q → (4 * q + 4) * 24 ≤ 140737488355328 →
  Calls Tryz.prog 10 #[.pointer (some ⟨box, 0, none⟩), .agg #[.int .i64 k, .int .u64 ax, .int .u64 ay, .int .u64 bx, .int .u64 bY, .int .u64 cx, .int .u64 cy, .int .u64 dx, .int .u64 dy, .slice lo ln lc]] w fun e w' => e = .returned (.bool true) ∧ Below base w w' ∧ ∃ lv' ls' q', Bk w' base box lv' ls' ∧ ls'.length = 4 * q' ∧ q' ≤ q + 1

set_option maxHeartbeats 8000000 in
set_option maxRecDepth 100000 in
theorem plays_all (HST : StepOk) (va : Option Addr) (n c : Nat) (ds : Nat → OpD) (w : World) (hs : ScrAt w va n ds) (hn : n * 96 ≤ 140737488351232) :
    Calls Tryz.prog 8 #[.slice va n c, .int .i64 6] w fun e w' => Below w.heap.size w w' ∧ e = .returned (.bool true) := by
  have HS : Hid (ScrAt w va n ds) := hs
  have HT : Hid StepOk := HST
  clear hs HST
  go_enter Tryz.func8, Tryz.ntmps8
  go_wp2
  generalize hW : World.alloc w _ = W
  have hWb : Below w.heap.size w W := by subst hW; exact (Below.refl _ _).alloc (Nat.le_refl _) _
  have hB0 : Bk W w.heap.size w.heap.size (.slice none 0 0) [] := by
    subst hW
    exact ⟨Nat.le_refl _, heap_alloc_new _ _, World.ownsRow_nil _ _ _ _, fun i h => absurd h (Nat.not_lt_zero _)⟩
  have HB0 : Hid (Bk W w.heap.size w.heap.size (.slice none 0 0) []) := hB0
  clear hW hB0
  go_loopw [6] (fun si wr => ∃ (k q : Nat) (lv : Value) (ls : List Value), si = .int .i64 k ∧ k ≤ n ∧ q ≤ k ∧ ls.length = 4 * q ∧ Bk wr w.heap.size w.heap.size lv ls ∧ Below w.heap.size w wr) (fun si _ => n - (intOf si).toNat)
  case atStart => exact ⟨0, 0, _, [], rfl, Nat.zero_le _, Nat.le_refl _, rfl, HB0.out, hWb⟩
  case round =>
    clear hWb HB0
    obtain ⟨k, q, lv, ls, rfl, hk, hq, hl, hB, hbel⟩ := hrel
    by_cases hlt : k < n
    · rcases HS.out with h0 | ⟨sb, so, rfl, hsb, hall⟩
      · omega
      obtain ⟨hC, hO⟩ := hall k hlt
      generalize ds k = d at hC hO
      obtain ⟨k0, ax, ay, bx, bY, cx, cy, dx, dy, lo, ln, lc, ps⟩ := d
      have hC := hC.kept hsb hbel
      have HO : Hid (OpOk wr ⟨k0, ax, ay, bx, bY, cx, cy, dx, dy, lo, ln, lc, ps⟩) := hO.kept hbel
      have HB : Hid (Bk wr w.heap.size w.heap.size lv ls) := hB
      have HL : Hid (ls.length = 4 * q) := hl
      have hbr := hbel.size
      have hsbr : sb < wr.heap.size := by omega
      clear hO hall hB hl
      unfold OpC at hC
      obtain ⟨p0, p1, p2, p3, p4, p5, p6, p7, p8, p9⟩ := hC
      dsimp only at p0 p1 p2 p3 p4 p5 p6 p7 p8 p9
      by_cases h6 : 6 < k0
      · clear p1 p2 p3 p4 p5 p6 p7 p8 p9
        go_wp2_with fail
        go_roundw
        case rel => exact ⟨k + 1, q, lv, ls, by go_num, by omega, by omega, HL.out, HB.out, hbel⟩
        case measure => simp [intOf]; omega
      · go_wp2_with (first | (go_at_call 10; go_must (refine (HT.out w.heap.size w.heap.size q lv ls k0 ax ay bx bY cx cy dx dy lo ln lc ps wr HO.out HB.out HL.out (by omega)).mono ?_; rintro e w1 ⟨rfl, hb1, lv1, ls1, q1, hK1, hl1, hq1⟩; have HK1 : Hid (Bk w1 w.heap.size w.heap.size lv1 ls1) := hK1; have HL1 : Hid (ls1.length = 4 * q1) := hl1; clear hK1 hl1)) | (go_at_call 11; go_must (refine (still_bk w.heap.size w.heap.size lv1 ls1 _ HK1.out (by have := HL1.out; omega)).mono ?_; rintro e w2 ⟨rfl, rfl⟩)))
        go_roundw
        case rel => exact ⟨k + 1, q1, lv1, ls1, by go_num, by omega, by omega, HL1.out, HK1.out, hbel.trans hb1⟩
        case measure => simp [intOf]; omega
    · have hkn : k = n := by omega
      subst hkn
      go_wp2
      go_ret
      exact ⟨hbel, rfl⟩

/-- The two steps that come first: the corners of the square, twice. -/
def sqOp (g : Nat) : OpD := ⟨6, 0, 0, 0, 0, 0, 0, 0, 0, some ⟨g, 0, none⟩, 4, 4, sqPts⟩

theorem zero64 : ∀ p ∈ [((0 : Nat), (0 : Nat)), (0, 0), (0, 0), (0, 0)], p.1 < 2 ^ 64 ∧ p.2 < 2 ^ 64 := by decide

theorem four_le : (4 : Nat) ≤ 8796093021952 := by decide

theorem sqOp_ok {w : World} {g : Nat} (h : SrcAt w (.slice (some ⟨g, 0, none⟩) 4 4) 4 sqPts) : OpOk w (sqOp g) := ⟨h, rfl, four_le, sq64, zero64⟩

theorem sq_scr {w : World} {a b : Nat} (h1 : SrcAt w (.slice (some ⟨a, 0, none⟩) 4 4) 4 sqPts) (h2 : SrcAt w (.slice (some ⟨b, 0, none⟩) 4 4) 4 sqPts) :
    ScrAt (w.alloc (.cells #[.int .i64 6, .int .u64 0, .int .u64 0, .int .u64 0, .int .u64 0, .int .u64 0, .int .u64 0, .int .u64 0, .int .u64 0, .slice (some ⟨a, 0, none⟩) 4 4, .int .i64 6, .int .u64 0, .int .u64 0, .int .u64 0, .int .u64 0, .int .u64 0, .int .u64 0, .int .u64 0, .int .u64 0, .slice (some ⟨b, 0, none⟩) 4 4] 28)) (some ⟨w.heap.size, 0, none⟩) 2 (fun i => sqOp (if i = 0 then a else b)) := by
  refine .inr ⟨w.heap.size, 0, rfl, by simp, fun i hi => ?_⟩
  match i, hi with
  | 0, _ => exact ⟨by unfold OpC sqOp; simp [go_sem], sqOp_ok (h1.kept (below_one _ _))⟩
  | 1, _ => exact ⟨by unfold OpC sqOp; simp [go_sem], sqOp_ok (h2.kept (below_one _ _))⟩

set_option maxHeartbeats 8000000 in
set_option maxRecDepth 100000 in
theorem all_walk (HST : StepOk) (va : Option Addr) (n c : Nat) (ds : Nat → OpD) (w : World) (hs : ScrAt w va n ds) (hn : n * 96 ≤ 140737488351232) :
    Calls Tryz.prog 7 #[.slice va n c] w fun e w' => e = .returned (.bool true) ∧ Below w.heap.size w w' := by
  have HS : Hid (∀ w', Below w.heap.size w w' → ScrAt w' va n ds) := fun w' hb => hs.kept hb
  have HT : Hid StepOk := HST
  clear hs HST
  go_enter Tryz.func7, Tryz.ntmps7
  go_wp2_with (first
    | (go_at_call 9; have g1 := hb1; go_must (refine (lawsquare_any _).mono ?_; rintro e w2 ⟨rfl, hq2, hb2⟩; have HQ1 : Hid (SrcAt w2 (.slice (some ⟨w.heap.size, 0, none⟩) 4 4) 4 sqPts) := hq1.kept hb2; have HQ2 : Hid (SrcAt w2 (.slice (some ⟨w1.heap.size, 0, none⟩) 4 4) 4 sqPts) := hq2; clear hq1 hq2))
    | (go_at_call 9; go_must (refine (lawsquare_any _).mono ?_; rintro e w1 ⟨rfl, hq1, hb1⟩))
    | (go_at_call 8; have g3 := hb3; go_must (refine (plays_all HT.out va n c ds _ (HS.out _ hW3) hn).mono ?_; rintro e w4 ⟨hb4, rfl⟩))
    | (go_at_call 8; go_must (refine (plays_all HT.out _ 2 2 _ _ (sq_scr HQ1.out HQ2.out) (by omega)).mono ?_; rintro e w3 ⟨hb3, rfl⟩; have hW3 : Below w.heap.size w w3 := below_step hb3 (below_alloc _ (below_step hb2 hb1)))))
  go_ret
  exact ⟨rfl, below_step hb4 hW3⟩

end Go.Proofs.YtbjjkfmdkmbcfaaGreat
