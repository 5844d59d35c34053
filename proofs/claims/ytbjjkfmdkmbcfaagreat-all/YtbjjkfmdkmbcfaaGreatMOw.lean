import Derived.Test.YtbjjkfmdkmbcfaaGreatMRb
import Derived.Test.YtbjjkfmdkmbcfaaGreatMWx
namespace Go.Proofs.YtbjjkfmdkmbcfaaGreat
open Go.RowKit
open PlRd

attribute [local go_sem ↓] Go.wp_at_zero Go.wp_at_succ

theorem pts4 {w : World} {g : Nat} {ax ay bx by' cx cy dx dy : Nat} (h0 : w.cell? ⟨g, 0, none⟩ = some (.int .u64 ax)) (h1 : w.cell? ⟨g, 1, none⟩ = some (.int .u64 ay)) (h2 : w.cell? ⟨g, 2, none⟩ = some (.int .u64 bx)) (h3 : w.cell? ⟨g, 3, none⟩ = some (.int .u64 by'))
    (h4 : w.cell? ⟨g, 4, none⟩ = some (.int .u64 cx)) (h5 : w.cell? ⟨g, 5, none⟩ = some (.int .u64 cy)) (h6 : w.cell? ⟨g, 6, none⟩ = some (.int .u64 dx)) (h7 : w.cell? ⟨g, 7, none⟩ = some (.int .u64 dy)) : PtsAt w g 0 [(ax, ay), (bx, by'), (cx, cy), (dx, dy)] := by
  intro t ht
  match t, ht with
  | 0, _ => exact ⟨h0, h1⟩
  | 1, _ => exact ⟨h2, h3⟩
  | 2, _ => exact ⟨h4, h5⟩
  | 3, _ => exact ⟨h6, h7⟩

theorem cos4_of_ok {ax ay bx by' cx cy dx dy : Nat} (hok : okPts [(ax, ay), (bx, by'), (cx, cy), (dx, dy)] = true) : (Co ax (valB ax) ∧ Co ay (valB ay)) ∧ (Co bx (valB bx) ∧ Co by' (valB by')) ∧ (Co cx (valB cx) ∧ Co cy (valB cy)) ∧ (Co dx (valB dx) ∧ Co dy (valB dy)) := by
  have hm : (mayB ax = true ∧ mayB ay = true) ∧ (mayB bx = true ∧ mayB by' = true) ∧ (mayB cx = true ∧ mayB cy = true) ∧ (mayB dx = true ∧ mayB dy = true) := by simpa [okPts] using hok
  exact ⟨⟨co_mayB hm.1.1, co_mayB hm.1.2⟩, ⟨co_mayB hm.2.1.1, co_mayB hm.2.1.2⟩, ⟨co_mayB hm.2.2.1.1, co_mayB hm.2.2.1.2⟩, ⟨co_mayB hm.2.2.2.1, co_mayB hm.2.2.2.2⟩⟩

theorem spots4_no (g ax ay bx by' cx cy dx dy : Nat) (w : World) (h64 : ∀ p ∈ [(ax, ay), (bx, by'), (cx, cy), (dx, dy)], p.1 < 2 ^ 64 ∧ p.2 < 2 ^ 64) (h0 : w.cell? ⟨g, 0, none⟩ = some (.int .u64 ax)) (h1 : w.cell? ⟨g, 1, none⟩ = some (.int .u64 ay)) (h2 : w.cell? ⟨g, 2, none⟩ = some (.int .u64 bx)) (h3 : w.cell? ⟨g, 3, none⟩ = some (.int .u64 by')) (h4 : w.cell? ⟨g, 4, none⟩ = some (.int .u64 cx)) (h5 : w.cell? ⟨g, 5, none⟩ = some (.int .u64 cy)) (h6 : w.cell? ⟨g, 6, none⟩ = some (.int .u64 dx)) (h7 : w.cell? ⟨g, 7, none⟩ = some (.int .u64 dy)) (hg : g < w.heap.size) (hok : okPts [(ax, ay), (bx, by'), (cx, cy), (dx, dy)] = false) :
    Calls Tryz.prog 35 #[.slice (some ⟨g, 0, none⟩) 4 4] w fun e w' => Below w.heap.size w w' ∧ e = .returned (.tuple #[.slice none 0 0, .int .i64 1]) := by
  refine (spots_walk g 4 4 [(ax, ay), (bx, by'), (cx, cy), (dx, dy)] w rfl (by decide) hg (pts4 h0 h1 h2 h3 h4 h5 h6 h7) h64).mono ?_
  rintro e w' ⟨hb, ⟨h1, _⟩ | ⟨_, rfl⟩⟩
  · rw [hok] at h1; cases h1
  · exact ⟨hb, rfl⟩

theorem spots4_ok (g ax ay bx by' cx cy dx dy : Nat) (w : World) (h64 : ∀ p ∈ [(ax, ay), (bx, by'), (cx, cy), (dx, dy)], p.1 < 2 ^ 64 ∧ p.2 < 2 ^ 64) (h0 : w.cell? ⟨g, 0, none⟩ = some (.int .u64 ax)) (h1 : w.cell? ⟨g, 1, none⟩ = some (.int .u64 ay)) (h2 : w.cell? ⟨g, 2, none⟩ = some (.int .u64 bx)) (h3 : w.cell? ⟨g, 3, none⟩ = some (.int .u64 by')) (h4 : w.cell? ⟨g, 4, none⟩ = some (.int .u64 cx)) (h5 : w.cell? ⟨g, 5, none⟩ = some (.int .u64 cy)) (h6 : w.cell? ⟨g, 6, none⟩ = some (.int .u64 dx)) (h7 : w.cell? ⟨g, 7, none⟩ = some (.int .u64 dy)) (hg : g < w.heap.size) (hok : okPts [(ax, ay), (bx, by'), (cx, cy), (dx, dy)] = true) :
    Calls Tryz.prog 35 #[.slice (some ⟨g, 0, none⟩) 4 4] w fun e w' => Below w.heap.size w w' ∧ e = .returned (.tuple #[.slice (some ⟨w.heap.size, 0, none⟩) 4 4, .int .i64 0]) ∧ (w'.cell? ⟨w.heap.size, 0, none⟩ = some (.float .f64 ax) ∧ w'.cell? ⟨w.heap.size, 1, none⟩ = some (.float .f64 ay) ∧ w'.cell? ⟨w.heap.size, 2, none⟩ = some (.float .f64 bx) ∧ w'.cell? ⟨w.heap.size, 3, none⟩ = some (.float .f64 by') ∧ w'.cell? ⟨w.heap.size, 4, none⟩ = some (.float .f64 cx) ∧ w'.cell? ⟨w.heap.size, 5, none⟩ = some (.float .f64 cy) ∧ w'.cell? ⟨w.heap.size, 6, none⟩ = some (.float .f64 dx) ∧ w'.cell? ⟨w.heap.size, 7, none⟩ = some (.float .f64 dy)) ∧ w.heap.size < w'.heap.size := by
  refine (spots_walk g 4 4 [(ax, ay), (bx, by'), (cx, cy), (dx, dy)] w rfl (by decide) hg (pts4 h0 h1 h2 h3 h4 h5 h6 h7) h64).mono ?_
  rintro e w' ⟨hb, ⟨_, rfl, h⟩ | ⟨h1, _⟩⟩
  · exact ⟨hb, rfl, ⟨h.cellAt 0 (by decide), h.cellAt 1 (by decide), h.cellAt 2 (by decide), h.cellAt 3 (by decide), h.cellAt 4 (by decide), h.cellAt 5 (by decide), h.cellAt 6 (by decide), h.cellAt 7 (by decide)⟩, (h.lt _ rfl).2⟩
  · rw [hok] at h1; cases h1

set_option maxHeartbeats 2000000 in
set_option maxRecDepth 100000 in
theorem orient_no (ax ay bx by' cx cy : Nat) (w : World) (h64 : ∀ p ∈ [(ax, ay), (bx, by'), (cx, cy)], p.1 < 2 ^ 64 ∧ p.2 < 2 ^ 64) (hok : okPts [(ax, ay), (bx, by'), (cx, cy)] = false) :
    Calls Tryz.prog 16 #[.agg #[.int .u64 ax, .int .u64 ay], .agg #[.int .u64 bx, .int .u64 by'], .agg #[.int .u64 cx, .int .u64 cy]] w fun e w' => Below w.heap.size w w' ∧ e = .returned (.tuple #[.int .i64 0, .int .i64 1]) := by
  go_enter Tryz.func16, Tryz.ntmps16
  go_wp2_with (go_at_call 35; go_must (refine (spots3_no _ ax ay bx by' cx cy _ h64 (by simp [go_sem]) (by simp [go_sem]) (by simp [go_sem]) (by simp [go_sem]) (by simp [go_sem]) (by simp [go_sem]) (by simp) hok).mono ?_; rintro e w' ⟨hb, rfl⟩))
  go_ret2
  refine ⟨Below.trans ?_ (hb.mono (by simp; omega)), rfl⟩
  repeat (first | exact Below.refl _ _ | refine Below.drew ?_ | refine Below.alloc ?_ (by simp <;> omega) _)

set_option maxHeartbeats 2000000 in
set_option maxRecDepth 100000 in
theorem nearer_no (ax ay bx by' cx cy : Nat) (w : World) (h64 : ∀ p ∈ [(ax, ay), (bx, by'), (cx, cy)], p.1 < 2 ^ 64 ∧ p.2 < 2 ^ 64) (hok : okPts [(ax, ay), (bx, by'), (cx, cy)] = false) :
    Calls Tryz.prog 17 #[.agg #[.int .u64 ax, .int .u64 ay], .agg #[.int .u64 bx, .int .u64 by'], .agg #[.int .u64 cx, .int .u64 cy]] w fun e w' => Below w.heap.size w w' ∧ e = .returned (.tuple #[.int .i64 0, .int .i64 1]) := by
  go_enter Tryz.func17, Tryz.ntmps17
  go_wp2_with (go_at_call 35; go_must (refine (spots3_no _ ax ay bx by' cx cy _ h64 (by simp [go_sem]) (by simp [go_sem]) (by simp [go_sem]) (by simp [go_sem]) (by simp [go_sem]) (by simp [go_sem]) (by simp) hok).mono ?_; rintro e w' ⟨hb, rfl⟩))
  go_ret2
  refine ⟨Below.trans ?_ (hb.mono (by simp; omega)), rfl⟩
  repeat (first | exact Below.refl _ _ | refine Below.drew ?_ | refine Below.alloc ?_ (by simp <;> omega) _)

set_option maxHeartbeats 2000000 in
set_option maxRecDepth 100000 in
theorem circle_no (ax ay bx by' cx cy dx dy : Nat) (w : World) (h64 : ∀ p ∈ [(ax, ay), (bx, by'), (cx, cy), (dx, dy)], p.1 < 2 ^ 64 ∧ p.2 < 2 ^ 64) (hok : okPts [(ax, ay), (bx, by'), (cx, cy), (dx, dy)] = false) :
    Calls Tryz.prog 18 #[.agg #[.int .u64 ax, .int .u64 ay], .agg #[.int .u64 bx, .int .u64 by'], .agg #[.int .u64 cx, .int .u64 cy], .agg #[.int .u64 dx, .int .u64 dy]] w fun e w' => Below w.heap.size w w' ∧ e = .returned (.tuple #[.int .i64 0, .int .i64 1]) := by
  go_enter Tryz.func18, Tryz.ntmps18
  go_wp2_with (go_at_call 35; go_must (refine (spots4_no _ ax ay bx by' cx cy dx dy _ h64 (by simp [go_sem]) (by simp [go_sem]) (by simp [go_sem]) (by simp [go_sem]) (by simp [go_sem]) (by simp [go_sem]) (by simp [go_sem]) (by simp [go_sem]) (by simp) hok).mono ?_; rintro e w' ⟨hb, rfl⟩))
  go_ret2
  refine ⟨Below.trans ?_ (hb.mono (by simp; omega)), rfl⟩
  repeat (first | exact Below.refl _ _ | refine Below.drew ?_ | refine Below.alloc ?_ (by simp <;> omega) _)

set_option maxHeartbeats 2000000 in
set_option maxRecDepth 100000 in
theorem meet_no (ax ay bx by' cx cy dx dy : Nat) (w : World) (h64 : ∀ p ∈ [(ax, ay), (bx, by'), (cx, cy), (dx, dy)], p.1 < 2 ^ 64 ∧ p.2 < 2 ^ 64) (hok : okPts [(ax, ay), (bx, by'), (cx, cy), (dx, dy)] = false) :
    Calls Tryz.prog 19 #[.agg #[.int .u64 ax, .int .u64 ay], .agg #[.int .u64 bx, .int .u64 by'], .agg #[.int .u64 cx, .int .u64 cy], .agg #[.int .u64 dx, .int .u64 dy]] w fun e w' => Below w.heap.size w w' ∧ e = .returned (.tuple #[.int .i64 0, .int .i64 1]) := by
  go_enter Tryz.func19, Tryz.ntmps19
  go_wp2_with (go_at_call 35; go_must (refine (spots4_no _ ax ay bx by' cx cy dx dy _ h64 (by simp [go_sem]) (by simp [go_sem]) (by simp [go_sem]) (by simp [go_sem]) (by simp [go_sem]) (by simp [go_sem]) (by simp [go_sem]) (by simp [go_sem]) (by simp) hok).mono ?_; rintro e w' ⟨hb, rfl⟩))
  go_ret2
  refine ⟨Below.trans ?_ (hb.mono (by simp; omega)), rfl⟩
  repeat (first | exact Below.refl _ _ | refine Below.drew ?_ | refine Below.alloc ?_ (by simp <;> omega) _)

set_option maxHeartbeats 8000000 in
set_option maxRecDepth 100000 in
theorem orient_ok (ax ay bx by' cx cy : Nat) (w : World) (h64 : ∀ p ∈ [(ax, ay), (bx, by'), (cx, cy)], p.1 < 2 ^ 64 ∧ p.2 < 2 ^ 64) (hok : okPts [(ax, ay), (bx, by'), (cx, cy)] = true) :
    Calls Tryz.prog 16 #[.agg #[.int .u64 ax, .int .u64 ay], .agg #[.int .u64 bx, .int .u64 by'], .agg #[.int .u64 cx, .int .u64 cy]] w fun e w' => Below w.heap.size w w' ∧ e = .returned (.tuple #[.int .i64 (sgn (turnV (ax, ay) (bx, by') (cx, cy))), .int .i64 0]) := by
  obtain ⟨⟨hax, hay⟩, ⟨hbx, hby⟩, ⟨hcx, hcy⟩⟩ := cos_of_ok hok
  go_enter Tryz.func16, Tryz.ntmps16
  go_wp2_with (go_at_call 35; go_must (refine (spots3_ok _ ax ay bx by' cx cy _ h64 (by simp [go_sem]) (by simp [go_sem]) (by simp [go_sem]) (by simp [go_sem]) (by simp [go_sem]) (by simp [go_sem]) (by simp) hok).mono ?_; rintro e W ⟨hb, rfl, hcs, hG⟩))
  have hw : Below w.heap.size w W := by
    refine Below.trans ?_ (hb.mono (by simp; omega))
    repeat (first | exact Below.refl _ _ | refine Below.drew ?_ | refine Below.alloc ?_ (by simp <;> omega) _)
  simp only [World.size_alloc] at hcs hG
  have KS : ∀ w', Below W.heap.size W w' → (w'.cell? ⟨w.heap.size + 1 + 1 + 1 + 1, 0, none⟩ = some (.float .f64 ax) ∧ w'.cell? ⟨w.heap.size + 1 + 1 + 1 + 1, 1, none⟩ = some (.float .f64 ay) ∧ w'.cell? ⟨w.heap.size + 1 + 1 + 1 + 1, 2, none⟩ = some (.float .f64 bx) ∧ w'.cell? ⟨w.heap.size + 1 + 1 + 1 + 1, 3, none⟩ = some (.float .f64 by') ∧ w'.cell? ⟨w.heap.size + 1 + 1 + 1 + 1, 4, none⟩ = some (.float .f64 cx) ∧ w'.cell? ⟨w.heap.size + 1 + 1 + 1 + 1, 5, none⟩ = some (.float .f64 cy)) := by
    intro w' h
    obtain ⟨hc, _⟩ := bcell h
    simp only [hc _ _ hG]
    exact hcs
  have hS0 := KS W (Below.refl _ _)
  clear hb hcs
  go_region_held3 (fun w' : World => (w'.cell? ⟨w.heap.size + 1 + 1 + 1 + 1, 0, none⟩ = some (.float .f64 ax) ∧ w'.cell? ⟨w.heap.size + 1 + 1 + 1 + 1, 1, none⟩ = some (.float .f64 ay) ∧ w'.cell? ⟨w.heap.size + 1 + 1 + 1 + 1, 2, none⟩ = some (.float .f64 bx) ∧ w'.cell? ⟨w.heap.size + 1 + 1 + 1 + 1, 3, none⟩ = some (.float .f64 by') ∧ w'.cell? ⟨w.heap.size + 1 + 1 + 1 + 1, 4, none⟩ = some (.float .f64 cx) ∧ w'.cell? ⟨w.heap.size + 1 + 1 + 1 + 1, 5, none⟩ = some (.float .f64 cy))) (exact KS _ (by repeat (first | exact hW1 | exact Below.refl _ _ | refine Below.drew ?_ | refine below_alloc _ ?_))) (first | (go_at_call 36; go_must (refine (turn_any ax ay bx by' cx cy _ _ _ _ _ _ _ hax hay hbx hby hcx hcy).mono ?_; rintro e w1 ⟨rfl, hb1⟩; have hW1 : Below W.heap.size W w1 := below_step hb1 (by repeat (first | exact Below.refl _ _ | refine Below.drew ?_ | refine below_alloc _ ?_)))))
  all_goals
    go_wp2
    go_ret2
    exact ⟨hw.trans (hW1.mono hw.size), rfl⟩

set_option maxHeartbeats 8000000 in
set_option maxRecDepth 100000 in
theorem nearer_ok (ax ay bx by' cx cy : Nat) (w : World) (h64 : ∀ p ∈ [(ax, ay), (bx, by'), (cx, cy)], p.1 < 2 ^ 64 ∧ p.2 < 2 ^ 64) (hok : okPts [(ax, ay), (bx, by'), (cx, cy)] = true) :
    Calls Tryz.prog 17 #[.agg #[.int .u64 ax, .int .u64 ay], .agg #[.int .u64 bx, .int .u64 by'], .agg #[.int .u64 cx, .int .u64 cy]] w fun e w' => Below w.heap.size w w' ∧ e = .returned (.tuple #[.int .i64 (sgn (distV (ax, ay) (cx, cy) - distV (ax, ay) (bx, by'))), .int .i64 0]) := by
  obtain ⟨⟨hax, hay⟩, ⟨hbx, hby⟩, ⟨hcx, hcy⟩⟩ := cos_of_ok hok
  go_enter Tryz.func17, Tryz.ntmps17
  go_wp2_with (go_at_call 35; go_must (refine (spots3_ok _ ax ay bx by' cx cy _ h64 (by simp [go_sem]) (by simp [go_sem]) (by simp [go_sem]) (by simp [go_sem]) (by simp [go_sem]) (by simp [go_sem]) (by simp) hok).mono ?_; rintro e W ⟨hb, rfl, hcs, hG⟩))
  have hw : Below w.heap.size w W := by
    refine Below.trans ?_ (hb.mono (by simp; omega))
    repeat (first | exact Below.refl _ _ | refine Below.drew ?_ | refine Below.alloc ?_ (by simp <;> omega) _)
  simp only [World.size_alloc] at hcs hG
  have KS : ∀ w', Below W.heap.size W w' → (w'.cell? ⟨w.heap.size + 1 + 1 + 1 + 1, 0, none⟩ = some (.float .f64 ax) ∧ w'.cell? ⟨w.heap.size + 1 + 1 + 1 + 1, 1, none⟩ = some (.float .f64 ay) ∧ w'.cell? ⟨w.heap.size + 1 + 1 + 1 + 1, 2, none⟩ = some (.float .f64 bx) ∧ w'.cell? ⟨w.heap.size + 1 + 1 + 1 + 1, 3, none⟩ = some (.float .f64 by') ∧ w'.cell? ⟨w.heap.size + 1 + 1 + 1 + 1, 4, none⟩ = some (.float .f64 cx) ∧ w'.cell? ⟨w.heap.size + 1 + 1 + 1 + 1, 5, none⟩ = some (.float .f64 cy)) := by
    intro w' h
    obtain ⟨hc, _⟩ := bcell h
    simp only [hc _ _ hG]
    exact hcs
  have hS0 := KS W (Below.refl _ _)
  clear hb hcs
  go_cut [10, 11] (fun v10 v11 wc => Nv wc v10 1 (distV (ax, ay) (bx, by')) 874 4 1288 ∧ Nv wc v11 1 (distV (ax, ay) (cx, cy)) 874 4 1288 ∧ Below W.heap.size W wc)
  case first =>
    go_region_held3 (fun w' : World => (w'.cell? ⟨w.heap.size + 1 + 1 + 1 + 1, 0, none⟩ = some (.float .f64 ax) ∧ w'.cell? ⟨w.heap.size + 1 + 1 + 1 + 1, 1, none⟩ = some (.float .f64 ay) ∧ w'.cell? ⟨w.heap.size + 1 + 1 + 1 + 1, 2, none⟩ = some (.float .f64 bx) ∧ w'.cell? ⟨w.heap.size + 1 + 1 + 1 + 1, 3, none⟩ = some (.float .f64 by') ∧ w'.cell? ⟨w.heap.size + 1 + 1 + 1 + 1, 4, none⟩ = some (.float .f64 cx) ∧ w'.cell? ⟨w.heap.size + 1 + 1 + 1 + 1, 5, none⟩ = some (.float .f64 cy))) (exact KS _ (by repeat (first | exact hW4 | exact hW3 | exact hW2 | exact hW1 | exact Below.refl _ _ | refine Below.drew ?_ | refine below_alloc _ ?_))) (first | (go_at_call 37; have gg3 := hb3; go_must (refine (length2_any _ _ _ _ _ hn3 hm3).mono ?_; rintro e w4 ⟨v4, rfl, hn4, hb4⟩; obtain ⟨g4, n4, c4, hv4⟩ := hn4.form; subst hv4; have hW4 : Below W.heap.size W w4 := below_step hb4 (by repeat (first | exact hW3 | exact hW2 | exact hW1 | exact Below.refl _ _ | refine Below.drew ?_ | refine below_alloc _ ?_)); have hk2 := (hn2.kept hb3).kept hb4)) | (go_at_call 38; have gg2 := hb2; go_must (refine (wayFrom_any ax ay cx cy _ _ _ _ _ hax hay hcx hcy).mono ?_; rintro e w3 ⟨v3, u3, rfl, hn3, hm3, hb3⟩; obtain ⟨g3, n3, c3, hv3⟩ := hn3.form; subst hv3; obtain ⟨i3, j3, k3, hu3⟩ := hm3.form; subst hu3; have hW3 : Below W.heap.size W w3 := below_step hb3 (by repeat (first | exact hW2 | exact hW1 | exact Below.refl _ _ | refine Below.drew ?_ | refine below_alloc _ ?_)))) | (go_at_call 37; go_must (refine (length2_any _ _ _ _ _ hn1 hm1).mono ?_; rintro e w2 ⟨v2, rfl, hn2, hb2⟩; obtain ⟨g2, n2, c2, hv2⟩ := hn2.form; subst hv2; have hW2 : Below W.heap.size W w2 := below_step hb2 (by repeat (first | exact hW1 | exact Below.refl _ _ | refine Below.drew ?_ | refine below_alloc _ ?_)))) | (go_at_call 38; go_must (refine (wayFrom_any ax ay bx by' _ _ _ _ _ hax hay hbx hby).mono ?_; rintro e w1 ⟨v1, u1, rfl, hn1, hm1, hb1⟩; obtain ⟨g1, n1, c1, hv1⟩ := hn1.form; subst hv1; obtain ⟨i1, j1, k1, hu1⟩ := hm1.form; subst hu1; have hW1 : Below W.heap.size W w1 := below_step hb1 (by repeat (first | exact Below.refl _ _ | refine Below.drew ?_ | refine below_alloc _ ?_)))))
    all_goals
      go_wp2_with fail
      go_meet
      exact ⟨hk2, hn4, hW4⟩
  case rest =>
    obtain ⟨hn10, hn11, hbc⟩ := hcut
    obtain ⟨p10, m10, d10, hv10⟩ := hn10.form
    obtain ⟨p11, m11, d11, hv11⟩ := hn11.form
    subst hv10 hv11
    clear KS hS0
    go_wp2_with (first | (go_at_call 40; go_must (refine (negative_nv _ 1 _ 874 4 1288 _ hn10 (by decide)).mono ?_; rintro e w4 ⟨v4, rfl, hn4, hb4⟩; obtain ⟨g4, n4, c4, hv4⟩ := hn4.form; subst hv4; have hk11 := hn11.kept hb4)) | (go_at_call 39; go_must (refine (total2_nv _ _ 1 _ _ 874 4 1288 _ _ hk11.toPv hn4 (by decide) (by decide)).mono ?_; rintro e w5 ⟨v5, rfl, hn5, hb5⟩; obtain ⟨g5, n5, c5, hv5⟩ := hn5.form; subst hv5)) | (go_at_call 41; go_must (refine (sign_nv _ 1 _ 874 5 1294 _ hn5 (by decide)).mono ?_; rintro e w6 ⟨rfl, rfl⟩)))
    go_ret2
    exact ⟨hw.trans ((below_step hb5 (below_step hb4 hbc)).mono hw.size), ret2_int (by rw [Int.sub_eq_add_neg])⟩

end Go.Proofs.YtbjjkfmdkmbcfaaGreat
