import Derived.Test.YtbjjkfmdkmbcfaaGreatRo
import Derived.Test.YtbjjkfmdkmbcfaaGreatOw
namespace Go.Proofs.YtbjjkfmdkmbcfaaGreat
open Go.RowKit
open PlLv

theorem lt_unscale {n a b c : Nat} (hc : c = a + b) (h : n * 2 ^ b < 2 ^ c) : n < 2 ^ a := by
  rw [hc, Nat.pow_add] at h
  exact Nat.lt_of_mul_lt_mul_right h

theorem crd_lt {b : Nat} (h : mayB b = true) : (crd b).natAbs < 2 ^ 200 := by
  obtain ⟨X, h1, _, h3⟩ := co_of_mayB h
  have h4 := valB_crd h
  rw [is_valB h1] at h4
  rw [h4, Int.natAbs_mul, PlRd.natAbs_two_pow] at h3
  exact lt_unscale (a := 200) (b := 974) (c := 1174) rfl h3

theorem scale_prod (a b c d E : Int) : (a * E - b * E) * (c * E - d * E) = (a - b) * (c - d) * (E * E) := by
  rw [← Int.sub_mul, ← Int.sub_mul, mul4]

theorem EE_pos : (0 : Int) < 2 ^ 974 * 2 ^ 974 := Int.mul_pos (PlRd.two_pow_pos 974) (PlRd.two_pow_pos 974)

/-- The turn, of the coordinates in the document's units. -/
theorem turn_crd {ax ay bx by' cx cy : Nat} (hok : okPts [(ax, ay), (bx, by'), (cx, cy)] = true) :
    PlRd.sgn (turnV (ax, ay) (bx, by') (cx, cy)) = PlRd.sgn ((crd bx - crd ax) * (crd cy - crd ay) - (crd by' - crd ay) * (crd cx - crd ax)) := by
  have hm : (mayB ax = true ∧ mayB ay = true) ∧ (mayB bx = true ∧ mayB by' = true) ∧ (mayB cx = true ∧ mayB cy = true) := by simpa [okPts] using hok
  unfold turnV
  simp only
  rw [valB_crd hm.1.1, valB_crd hm.1.2, valB_crd hm.2.1.1, valB_crd hm.2.1.2, valB_crd hm.2.2.1, valB_crd hm.2.2.2, scale_prod, scale_prod, ← Int.sub_mul, sgn_mul _ _ EE_pos]

theorem dist_crd {ax ay bx by' cx cy : Nat} (hok : okPts [(ax, ay), (bx, by'), (cx, cy)] = true) :
    PlRd.sgn (distV (ax, ay) (cx, cy) - distV (ax, ay) (bx, by')) = PlRd.sgn (((crd cx - crd ax) * (crd cx - crd ax) + (crd cy - crd ay) * (crd cy - crd ay)) - ((crd bx - crd ax) * (crd bx - crd ax) + (crd by' - crd ay) * (crd by' - crd ay))) := by
  have hm : (mayB ax = true ∧ mayB ay = true) ∧ (mayB bx = true ∧ mayB by' = true) ∧ (mayB cx = true ∧ mayB cy = true) := by simpa [okPts] using hok
  unfold distV
  simp only
  rw [valB_crd hm.1.1, valB_crd hm.1.2, valB_crd hm.2.1.1, valB_crd hm.2.1.2, valB_crd hm.2.2.1, valB_crd hm.2.2.2, scale_prod, scale_prod, scale_prod, scale_prod, ← Int.add_mul, ← Int.add_mul, ← Int.sub_mul, sgn_mul _ _ EE_pos]

set_option maxHeartbeats 400000 in
theorem num_any (e : Int) (w : World) : Calls Tryz.prog 20 #[.int .i64 e] w fun r w' => r = .returned (.int .i64 e) ∧ w' = w := by
  go_enter Tryz.func20, Tryz.ntmps20
  go_wp2
  go_ret
  exact ⟨rfl, rfl⟩

/-- Three points as the reference has them. -/
theorem points3_no (g ax ay bx by' cx cy : Nat) (w : World) (h64 : ∀ p ∈ [(ax, ay), (bx, by'), (cx, cy)], p.1 < 2 ^ 64 ∧ p.2 < 2 ^ 64) (h0 : w.cell? ⟨g, 0, none⟩ = some (.int .u64 ax)) (h1 : w.cell? ⟨g, 1, none⟩ = some (.int .u64 ay)) (h2 : w.cell? ⟨g, 2, none⟩ = some (.int .u64 bx)) (h3 : w.cell? ⟨g, 3, none⟩ = some (.int .u64 by')) (h4 : w.cell? ⟨g, 4, none⟩ = some (.int .u64 cx)) (h5 : w.cell? ⟨g, 5, none⟩ = some (.int .u64 cy)) (hg : g < w.heap.size) (hok : okPts [(ax, ay), (bx, by'), (cx, cy)] = false) :
    Calls Tryz.prog 15 #[.slice (some ⟨g, 0, none⟩) 3 3] w fun e w' => Below w.heap.size w w' ∧ e = .returned (.tuple #[.slice none 0 0, .bool false]) := by
  refine (points_walk g 3 3 [(ax, ay), (bx, by'), (cx, cy)] w rfl (by decide) hg (pts3 h0 h1 h2 h3 h4 h5) h64).mono ?_
  rintro e w' ⟨hb, ⟨h1, _⟩ | ⟨_, rfl⟩⟩
  · rw [hok] at h1; cases h1
  · exact ⟨hb, rfl⟩

theorem own12 {w : World} {b : Nat} {v : Value} {xs : List Value} (h : w.ownsRow b 55 4 v 3 xs) : ∃ g c, v = .slice (some ⟨g, 0, none⟩) 3 c ∧ g < w.heap.size ∧ ∀ j, j < 12 → w.cell? ⟨g, j, none⟩ = xs[j]? := by
  have h0 := h
  rcases h.2 with ⟨_, hn⟩ | ⟨g, c, cur, rfl, _, hg, _⟩
  · cases hn
  · exact ⟨g, c, rfl, lt_of_row hg, fun j hj => h0.cellAt j (by omega)⟩

structure Q3 (w : World) (g : Nat) (a b c : PB) : Prop where
  lt : g < w.heap.size
  c0 : w.cell? ⟨g, 0, none⟩ = some (.bool a.nx) ∧ w.cell? ⟨g, 1, none⟩ = some a.vx ∧ w.cell? ⟨g, 2, none⟩ = some (.bool a.ny) ∧ w.cell? ⟨g, 3, none⟩ = some a.vy
  c1 : w.cell? ⟨g, 4, none⟩ = some (.bool b.nx) ∧ w.cell? ⟨g, 5, none⟩ = some b.vx ∧ w.cell? ⟨g, 6, none⟩ = some (.bool b.ny) ∧ w.cell? ⟨g, 7, none⟩ = some b.vy
  c2 : w.cell? ⟨g, 8, none⟩ = some (.bool c.nx) ∧ w.cell? ⟨g, 9, none⟩ = some c.vx ∧ w.cell? ⟨g, 10, none⟩ = some (.bool c.ny) ∧ w.cell? ⟨g, 11, none⟩ = some c.vy

theorem Q3.kept {w w' : World} {g : Nat} {a b c : PB} (h : Q3 w g a b c) (hb : Below w.heap.size w w') : Q3 w' g a b c := by
  have hc : ∀ j, w'.cell? ⟨g, j, none⟩ = w.cell? ⟨g, j, none⟩ := fun j => hb.cell (p := ⟨g, j, none⟩) h.lt
  refine ⟨Nat.lt_of_lt_of_le h.lt hb.size, ?_, ?_, ?_⟩
  · rw [hc, hc, hc, hc]; exact h.c0
  · rw [hc, hc, hc, hc]; exact h.c1
  · rw [hc, hc, hc, hc]; exact h.c2

theorem points3_ok (g ax ay bx by' cx cy : Nat) (w : World) (h64 : ∀ p ∈ [(ax, ay), (bx, by'), (cx, cy)], p.1 < 2 ^ 64 ∧ p.2 < 2 ^ 64) (h0 : w.cell? ⟨g, 0, none⟩ = some (.int .u64 ax)) (h1 : w.cell? ⟨g, 1, none⟩ = some (.int .u64 ay)) (h2 : w.cell? ⟨g, 2, none⟩ = some (.int .u64 bx)) (h3 : w.cell? ⟨g, 3, none⟩ = some (.int .u64 by')) (h4 : w.cell? ⟨g, 4, none⟩ = some (.int .u64 cx)) (h5 : w.cell? ⟨g, 5, none⟩ = some (.int .u64 cy)) (hg : g < w.heap.size) (hok : okPts [(ax, ay), (bx, by'), (cx, cy)] = true) :
    Calls Tryz.prog 15 #[.slice (some ⟨g, 0, none⟩) 3 3] w fun e w' => Below w.heap.size w w' ∧ ∃ (g' c' : Nat) (a b c : PB), e = .returned (.tuple #[.slice (some ⟨g', 0, none⟩) 3 c', .bool true]) ∧ Q3 w' g' a b c ∧ PBs w' a (ax, ay) ∧ PBs w' b (bx, by') ∧ PBs w' c (cx, cy) := by
  refine (points_walk g 3 3 [(ax, ay), (bx, by'), (cx, cy)] w rfl (by decide) hg (pts3 h0 h1 h2 h3 h4 h5) h64).mono ?_
  rintro e w' ⟨hb, ⟨_, v, qs, rfl, hown, hp⟩ | ⟨h1, _⟩⟩
  · have hl := hp.length
    match qs, hl, hp, hown with
    | [a, b, c], _, hp, hown =>
      obtain ⟨g', c', rfl, hlt, hc⟩ := own12 hown
      refine ⟨hb, g', c', a, b, c, rfl, ⟨hlt, ⟨hc 0 (by decide), hc 1 (by decide), hc 2 (by decide), hc 3 (by decide)⟩, ⟨hc 4 (by decide), hc 5 (by decide), hc 6 (by decide), hc 7 (by decide)⟩, ⟨hc 8 (by decide), hc 9 (by decide), hc 10 (by decide), hc 11 (by decide)⟩⟩, hp.1, hp.2.1, hp.2.2.1⟩
  · rw [hok] at h1; cases h1

end Go.Proofs.YtbjjkfmdkmbcfaaGreat
