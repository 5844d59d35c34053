import Derived.Test.YtbjjkfmdkmbcfaaKw
namespace Go.Proofs.Ytbjjkfmdkmbcfaa
open Go.RowKit
open PlRd
open Ieee (double signed)

attribute [local go_sem ↓] Go.wp_at_zero Go.wp_at_succ

/-- What the bits stand for, in units; 0 where they are no number. -/
def valB (b : Nat) : Int :=
  match double.read b with
  | .number s m p => signed s m (p + 1074).toNat
  | _ => 0

theorem is_valB {b : Nat} {x : Int} (h : Is b x) : valB b = x := by
  obtain ⟨s, m, p, h1, _, _, _, h2⟩ := h
  unfold valB; rw [h1]; exact h2

theorem co_mayB {b : Nat} (h : mayB b = true) : Co b (valB b) := by
  obtain ⟨X, h1, h2, h3⟩ := co_of_mayB h
  rw [is_valB h1]
  exact ⟨h1, h2, Nat.le_of_lt h3⟩

/-- The turn, in units twice. -/
def turnV (a b c : Nat × Nat) : Int := (valB b.1 - valB a.1) * (valB c.2 - valB a.2) - (valB b.2 - valB a.2) * (valB c.1 - valB a.1)
def distV (a b : Nat × Nat) : Int := (valB b.1 - valB a.1) * (valB b.1 - valB a.1) + (valB b.2 - valB a.2) * (valB b.2 - valB a.2)

theorem sgn_mul (x c : Int) (hc : 0 < c) : sgn (x * c) = sgn x := by
  unfold sgn
  have h1 : (0 < x * c) ↔ 0 < x := by
    have := Int.mul_lt_mul_right (a := c) (b := 0) (c := x) hc
    rw [Int.zero_mul] at this
    exact this
  have h2 : (x * c < 0) ↔ x < 0 := by
    have := Int.mul_lt_mul_right (a := c) (b := x) (c := 0) hc
    rw [Int.zero_mul] at this
    exact this
  simp only [h1, h2]

theorem pts3 {w : World} {g : Nat} {ax ay bx by' cx cy : Nat} (h0 : w.cell? ⟨g, 0, none⟩ = some (.int .u64 ax)) (h1 : w.cell? ⟨g, 1, none⟩ = some (.int .u64 ay)) (h2 : w.cell? ⟨g, 2, none⟩ = some (.int .u64 bx)) (h3 : w.cell? ⟨g, 3, none⟩ = some (.int .u64 by'))
    (h4 : w.cell? ⟨g, 4, none⟩ = some (.int .u64 cx)) (h5 : w.cell? ⟨g, 5, none⟩ = some (.int .u64 cy)) : PtsAt w g 0 [(ax, ay), (bx, by'), (cx, cy)] := by
  intro t ht
  match t, ht with
  | 0, _ => exact ⟨h0, h1⟩
  | 1, _ => exact ⟨h2, h3⟩
  | 2, _ => exact ⟨h4, h5⟩

theorem own_cells6 {w : World} {base g : Nat} {a b c d e f : Value} (h : w.ownsRow base 55 2 (.slice (some ⟨g, 0, none⟩) 3 3) 3 [a, b, c, d, e, f]) :
    (w.cell? ⟨g, 0, none⟩ = some a ∧ w.cell? ⟨g, 1, none⟩ = some b ∧ w.cell? ⟨g, 2, none⟩ = some c ∧ w.cell? ⟨g, 3, none⟩ = some d ∧ w.cell? ⟨g, 4, none⟩ = some e ∧ w.cell? ⟨g, 5, none⟩ = some f) ∧ g < w.heap.size :=
  ⟨⟨h.cellAt 0 (by decide), h.cellAt 1 (by decide), h.cellAt 2 (by decide), h.cellAt 3 (by decide), h.cellAt 4 (by decide), h.cellAt 5 (by decide)⟩, (h.lt g rfl).2⟩

theorem ret2_int {a b : Int} (h : a = b) : Ending.returned (.tuple #[.int .i64 a, .int .i64 0]) = .returned (.tuple #[.int .i64 b, .int .i64 0]) := by rw [h]

theorem spots3_no (g ax ay bx by' cx cy : Nat) (w : World) (h64 : ∀ p ∈ [(ax, ay), (bx, by'), (cx, cy)], p.1 < 2 ^ 64 ∧ p.2 < 2 ^ 64) (h0 : w.cell? ⟨g, 0, none⟩ = some (.int .u64 ax)) (h1 : w.cell? ⟨g, 1, none⟩ = some (.int .u64 ay)) (h2 : w.cell? ⟨g, 2, none⟩ = some (.int .u64 bx)) (h3 : w.cell? ⟨g, 3, none⟩ = some (.int .u64 by')) (h4 : w.cell? ⟨g, 4, none⟩ = some (.int .u64 cx)) (h5 : w.cell? ⟨g, 5, none⟩ = some (.int .u64 cy)) (hg : g < w.heap.size) (hok : okPts [(ax, ay), (bx, by'), (cx, cy)] = false) :
    Calls Try.prog 24 #[.slice (some ⟨g, 0, none⟩) 3 3] w fun e w' => Below w.heap.size w w' ∧ e = .returned (.tuple #[.slice none 0 0, .int .i64 1]) := by
  refine (spots_walk g 3 3 [(ax, ay), (bx, by'), (cx, cy)] w rfl (by decide) hg (pts3 h0 h1 h2 h3 h4 h5) h64).mono ?_
  rintro e w' ⟨hb, ⟨h1, _⟩ | ⟨_, rfl⟩⟩
  · rw [hok] at h1; cases h1
  · exact ⟨hb, rfl⟩

theorem spots3_ok (g ax ay bx by' cx cy : Nat) (w : World) (h64 : ∀ p ∈ [(ax, ay), (bx, by'), (cx, cy)], p.1 < 2 ^ 64 ∧ p.2 < 2 ^ 64) (h0 : w.cell? ⟨g, 0, none⟩ = some (.int .u64 ax)) (h1 : w.cell? ⟨g, 1, none⟩ = some (.int .u64 ay)) (h2 : w.cell? ⟨g, 2, none⟩ = some (.int .u64 bx)) (h3 : w.cell? ⟨g, 3, none⟩ = some (.int .u64 by')) (h4 : w.cell? ⟨g, 4, none⟩ = some (.int .u64 cx)) (h5 : w.cell? ⟨g, 5, none⟩ = some (.int .u64 cy)) (hg : g < w.heap.size) (hok : okPts [(ax, ay), (bx, by'), (cx, cy)] = true) :
    Calls Try.prog 24 #[.slice (some ⟨g, 0, none⟩) 3 3] w fun e w' => Below w.heap.size w w' ∧ e = .returned (.tuple #[.slice (some ⟨w.heap.size, 0, none⟩) 3 3, .int .i64 0]) ∧ (w'.cell? ⟨w.heap.size, 0, none⟩ = some (.float .f64 ax) ∧ w'.cell? ⟨w.heap.size, 1, none⟩ = some (.float .f64 ay) ∧ w'.cell? ⟨w.heap.size, 2, none⟩ = some (.float .f64 bx) ∧ w'.cell? ⟨w.heap.size, 3, none⟩ = some (.float .f64 by') ∧ w'.cell? ⟨w.heap.size, 4, none⟩ = some (.float .f64 cx) ∧ w'.cell? ⟨w.heap.size, 5, none⟩ = some (.float .f64 cy)) ∧ w.heap.size < w'.heap.size := by
  refine (spots_walk g 3 3 [(ax, ay), (bx, by'), (cx, cy)] w rfl (by decide) hg (pts3 h0 h1 h2 h3 h4 h5) h64).mono ?_
  rintro e w' ⟨hb, ⟨_, rfl, hown⟩ | ⟨h1, _⟩⟩
  · obtain ⟨hc, hl⟩ := own_cells6 hown
    exact ⟨hb, rfl, hc, hl⟩
  · rw [hok] at h1; cases h1

theorem below_cells6 {W W' : World} {G : Nat} {a b c d e f : Value} (h : (W.cell? ⟨G, 0, none⟩ = some a ∧ W.cell? ⟨G, 1, none⟩ = some b ∧ W.cell? ⟨G, 2, none⟩ = some c ∧ W.cell? ⟨G, 3, none⟩ = some d ∧ W.cell? ⟨G, 4, none⟩ = some e ∧ W.cell? ⟨G, 5, none⟩ = some f)) (hG : G < W.heap.size) (hb : Below W.heap.size W W') :
    (W'.cell? ⟨G, 0, none⟩ = some a ∧ W'.cell? ⟨G, 1, none⟩ = some b ∧ W'.cell? ⟨G, 2, none⟩ = some c ∧ W'.cell? ⟨G, 3, none⟩ = some d ∧ W'.cell? ⟨G, 4, none⟩ = some e ∧ W'.cell? ⟨G, 5, none⟩ = some f) ∧ Below W.heap.size W W' := by
  obtain ⟨hc, _⟩ := bcell hb
  rw [hc _ _ hG, hc _ _ hG, hc _ _ hG, hc _ _ hG, hc _ _ hG, hc _ _ hG]
  exact ⟨h, hb⟩

theorem cos_of_ok {ax ay bx by' cx cy : Nat} (hok : okPts [(ax, ay), (bx, by'), (cx, cy)] = true) : (Co ax (valB ax) ∧ Co ay (valB ay)) ∧ (Co bx (valB bx) ∧ Co by' (valB by')) ∧ (Co cx (valB cx) ∧ Co cy (valB cy)) := by
  have hm : (mayB ax = true ∧ mayB ay = true) ∧ (mayB bx = true ∧ mayB by' = true) ∧ (mayB cx = true ∧ mayB cy = true) := by simpa [okPts] using hok
  exact ⟨⟨co_mayB hm.1.1, co_mayB hm.1.2⟩, ⟨co_mayB hm.2.1.1, co_mayB hm.2.1.2⟩, ⟨co_mayB hm.2.2.1, co_mayB hm.2.2.2⟩⟩

end Go.Proofs.Ytbjjkfmdkmbcfaa
