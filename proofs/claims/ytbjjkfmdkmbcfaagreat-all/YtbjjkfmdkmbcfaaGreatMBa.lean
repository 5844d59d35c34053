import Derived.Test.YtbjjkfmdkmbcfaaGreatMLb
namespace Go.Proofs.YtbjjkfmdkmbcfaaGreat
open Go.RowKit
open PlLv

attribute [local go_sem ↓] Go.wp_at_zero Go.wp_at_succ

set_option maxHeartbeats 4000000 in
set_option maxRecDepth 100000 in
theorem asked_orient_no_g (ax ay bx by' cx cy : Nat) (dx dy : Nat) (lo : Option Addr) (ln lc : Nat) (w : World) (h64 : ∀ p ∈ [(ax, ay), (bx, by'), (cx, cy)], p.1 < 2 ^ 64 ∧ p.2 < 2 ^ 64) (hok : okPts [(ax, ay), (bx, by'), (cx, cy)] = false) :
    Calls Tryz.prog 12 #[.agg #[.int .i64 1, .int .u64 ax, .int .u64 ay, .int .u64 bx, .int .u64 by', .int .u64 cx, .int .u64 cy, .int .u64 dx, .int .u64 dy, .slice lo ln lc]] w fun e w' => Below w.heap.size w w' ∧ e = .returned (.bool true) := by
  go_enter Tryz.func12, Tryz.ntmps12
  go_wp2_with (first | (go_at_call 15; go_must (refine (points3_no _ ax ay bx by' cx cy _ h64 (by simp [go_sem]) (by simp [go_sem]) (by simp [go_sem]) (by simp [go_sem]) (by simp [go_sem]) (by simp [go_sem]) (by simp) hok).mono ?_; rintro e w1 ⟨hb1, rfl⟩; obtain ⟨bx0, bx1, bx2, bx3, bx4, bx5, bx6⟩ := box_cells hb1; have kz1 := hb1.size; (try simp at kz1))) | (go_at_call 16; go_must (refine (orient_no ax ay bx by' cx cy _ h64 hok).mono ?_; rintro e w2 ⟨hb2, rfl⟩)) | (go_at_call 20; go_must (refine (num_any _ _).mono ?_; rintro e w3 ⟨rfl, rfl⟩)))
  go_ret
  refine ⟨?_, rfl⟩
  exact below_step hb2 (below_step hb1 (((Below.refl _ w).alloc (Nat.le_refl _) _).alloc (by simp) _))

set_option maxHeartbeats 4000000 in
set_option maxRecDepth 100000 in
theorem asked_nearer_no_g (ax ay bx by' cx cy : Nat) (dx dy : Nat) (lo : Option Addr) (ln lc : Nat) (w : World) (h64 : ∀ p ∈ [(ax, ay), (bx, by'), (cx, cy)], p.1 < 2 ^ 64 ∧ p.2 < 2 ^ 64) (hok : okPts [(ax, ay), (bx, by'), (cx, cy)] = false) :
    Calls Tryz.prog 12 #[.agg #[.int .i64 2, .int .u64 ax, .int .u64 ay, .int .u64 bx, .int .u64 by', .int .u64 cx, .int .u64 cy, .int .u64 dx, .int .u64 dy, .slice lo ln lc]] w fun e w' => Below w.heap.size w w' ∧ e = .returned (.bool true) := by
  go_enter Tryz.func12, Tryz.ntmps12
  go_wp2_with (first | (go_at_call 15; go_must (refine (points3_no _ ax ay bx by' cx cy _ h64 (by simp [go_sem]) (by simp [go_sem]) (by simp [go_sem]) (by simp [go_sem]) (by simp [go_sem]) (by simp [go_sem]) (by simp) hok).mono ?_; rintro e w1 ⟨hb1, rfl⟩; obtain ⟨bx0, bx1, bx2, bx3, bx4, bx5, bx6⟩ := box_cells hb1; have kz1 := hb1.size; (try simp at kz1))) | (go_at_call 17; go_must (refine (nearer_no ax ay bx by' cx cy _ h64 hok).mono ?_; rintro e w2 ⟨hb2, rfl⟩)) | (go_at_call 20; go_must (refine (num_any _ _).mono ?_; rintro e w3 ⟨rfl, rfl⟩)))
  go_ret
  refine ⟨?_, rfl⟩
  exact below_step hb2 (below_step hb1 (((Below.refl _ w).alloc (Nat.le_refl _) _).alloc (by simp) _))

set_option maxHeartbeats 8000000 in
set_option maxRecDepth 100000 in
theorem asked_orient_ok_g (ax ay bx by' cx cy : Nat) (dx dy : Nat) (lo : Option Addr) (ln lc : Nat) (w : World) (h64 : ∀ p ∈ [(ax, ay), (bx, by'), (cx, cy)], p.1 < 2 ^ 64 ∧ p.2 < 2 ^ 64) (hok : okPts [(ax, ay), (bx, by'), (cx, cy)] = true) :
    Calls Tryz.prog 12 #[.agg #[.int .i64 1, .int .u64 ax, .int .u64 ay, .int .u64 bx, .int .u64 by', .int .u64 cx, .int .u64 cy, .int .u64 dx, .int .u64 dy, .slice lo ln lc]] w fun e w' => Below w.heap.size w w' ∧ e = .returned (.bool true) := by
  have hm : (mayB ax = true ∧ mayB ay = true) ∧ (mayB bx = true ∧ mayB by' = true) ∧ (mayB cx = true ∧ mayB cy = true) := by simpa [okPts] using hok
  have sax := crd_lt hm.1.1
  have say := crd_lt hm.1.2
  have sbx := crd_lt hm.2.1.1
  have sby := crd_lt hm.2.1.2
  have scx := crd_lt hm.2.2.1
  have scy := crd_lt hm.2.2.2
  have HO : Hid (∀ W, Calls Tryz.prog 16 #[.agg #[.int .u64 ax, .int .u64 ay], .agg #[.int .u64 bx, .int .u64 by'], .agg #[.int .u64 cx, .int .u64 cy]] W fun e w' => Below W.heap.size W w' ∧ e = .returned (.tuple #[.int .i64 (PlRd.sgn ((crd bx - crd ax) * (crd cy - crd ay) - (crd by' - crd ay) * (crd cx - crd ax))), .int .i64 0])) :=
    fun W => by rw [← turn_crd hok]; exact orient_ok ax ay bx by' cx cy W h64 hok
  clear hm
  go_enter Tryz.func12, Tryz.ntmps12
  go_wp2_with (first | (go_at_call 15; go_must (refine (points3_ok _ ax ay bx by' cx cy _ h64 (by simp [go_sem]) (by simp [go_sem]) (by simp [go_sem]) (by simp [go_sem]) (by simp [go_sem]) (by simp [go_sem]) (by simp) hok).mono ?_; rintro e w1 ⟨hb1, g, c0, qa, qb, qc, rfl, hQ, Pa, Pb, Pc⟩; obtain ⟨bx0, bx1, bx2, bx3, bx4, bx5, bx6⟩ := box_cells hb1; have kz1 := hb1.size; (try simp at kz1))) | (go_at_call 16; go_must (refine (HO.out _).mono ?_; rintro e w2 ⟨hb2, rfl⟩; have hQ2 := hQ.kept hb2; replace Pa := Pa.kept hb2; replace Pb := Pb.kept hb2; replace Pc := Pc.kept hb2; obtain ⟨bx0, bx1, bx2, bx3, bx4, bx5, bx6⟩ := box_cells (below_step hb2 hb1))))
  obtain ⟨nax, vax, lax, nay, vay, lay⟩ := qa; obtain ⟨nbx, vbx, lbx, nby, vby, lby⟩ := qb; obtain ⟨ncx, vcx, lcx, ncy, vcy, lcy⟩ := qc; obtain ⟨oax, cax, hfax⟩ := bg_form Pa.1; simp only at hfax; subst hfax; obtain ⟨oay, cay, hfay⟩ := bg_form Pa.2; simp only at hfay; subst hfay; obtain ⟨obx, cbx, hfbx⟩ := bg_form Pb.1; simp only at hfbx; subst hfbx; obtain ⟨oby, cby, hfby⟩ := bg_form Pb.2; simp only at hfby; subst hfby; obtain ⟨ocx, ccx, hfcx⟩ := bg_form Pc.1; simp only at hfcx; subst hfcx; obtain ⟨ocy, ccy, hfcy⟩ := bg_form Pc.2; simp only at hfcy; subst hfcy;
  obtain ⟨hQl, ⟨q0, q1, q2, q3⟩, ⟨q4, q5, q6, q7⟩, ⟨q8, q9, q10, q11⟩⟩ := hQ2
  have KS : ∀ w', Below w2.heap.size w2 w' → (w'.cell? ⟨g, 0, none⟩ = some (.bool nax) ∧ w'.cell? ⟨g, 1, none⟩ = some (.slice oax lax.length cax) ∧ w'.cell? ⟨g, 2, none⟩ = some (.bool nay) ∧ w'.cell? ⟨g, 3, none⟩ = some (.slice oay lay.length cay) ∧ w'.cell? ⟨g, 4, none⟩ = some (.bool nbx) ∧ w'.cell? ⟨g, 5, none⟩ = some (.slice obx lbx.length cbx) ∧ w'.cell? ⟨g, 6, none⟩ = some (.bool nby) ∧ w'.cell? ⟨g, 7, none⟩ = some (.slice oby lby.length cby) ∧ w'.cell? ⟨g, 8, none⟩ = some (.bool ncx) ∧ w'.cell? ⟨g, 9, none⟩ = some (.slice ocx lcx.length ccx) ∧ w'.cell? ⟨g, 10, none⟩ = some (.bool ncy) ∧ w'.cell? ⟨g, 11, none⟩ = some (.slice ocy lcy.length ccy)) ∧ Below w2.heap.size w2 w' := by
    intro w' hb
    have hc : ∀ j, w'.cell? ⟨g, j, none⟩ = w2.cell? ⟨g, j, none⟩ := fun j => hb.cell (p := ⟨g, j, none⟩) hQl
    simp only [hc]
    exact ⟨⟨q0, q1, q2, q3, q4, q5, q6, q7, q8, q9, q10, q11⟩, hb⟩
  have hS0 := KS w2 (Below.refl _ _)
  clear q0 q1 q2 q3 q4 q5 q6 q7 q8 q9 q10 q11 hQ
  go_region_held3 (fun w' => (w'.cell? ⟨g, 0, none⟩ = some (.bool nax) ∧ w'.cell? ⟨g, 1, none⟩ = some (.slice oax lax.length cax) ∧ w'.cell? ⟨g, 2, none⟩ = some (.bool nay) ∧ w'.cell? ⟨g, 3, none⟩ = some (.slice oay lay.length cay) ∧ w'.cell? ⟨g, 4, none⟩ = some (.bool nbx) ∧ w'.cell? ⟨g, 5, none⟩ = some (.slice obx lbx.length cbx) ∧ w'.cell? ⟨g, 6, none⟩ = some (.bool nby) ∧ w'.cell? ⟨g, 7, none⟩ = some (.slice oby lby.length cby) ∧ w'.cell? ⟨g, 8, none⟩ = some (.bool ncx) ∧ w'.cell? ⟨g, 9, none⟩ = some (.slice ocx lcx.length ccx) ∧ w'.cell? ⟨g, 10, none⟩ = some (.bool ncy) ∧ w'.cell? ⟨g, 11, none⟩ = some (.slice ocy lcy.length ccy)) ∧ Below w2.heap.size w2 w') (first | exact KS _ (Below.refl _ _).drew | (go_split_ands; first | exact KS _ (below_step hb6 (by assumption)) | exact KS _ (below_step hb5 (by assumption)) | exact KS _ (below_step hb4 (by assumption)) | exact KS _ (below_step hb3 (by assumption)) | exact KS _ (Below.drew (by assumption)) | exact KS _ (by assumption))) (first | (go_at_call 21; go_must (refine (rturn_any nax oax cax lax (crd ax) nay oay cay lay (crd ay) nbx obx cbx lbx (crd bx) nby oby cby lby (crd by') ncx ocx ccx lcx (crd cx) ncy ocy ccy lcy (crd cy) _ (Pa.1.kept (Below.refl _ _).drew) sax (Pa.2.kept (Below.refl _ _).drew) say (Pb.1.kept (Below.refl _ _).drew) sbx (Pb.2.kept (Below.refl _ _).drew) sby (Pc.1.kept (Below.refl _ _).drew) scx (Pc.2.kept (Below.refl _ _).drew) scy).mono ?_; rintro e w3 ⟨hb3, rfl⟩)))
  all_goals
    go_wp2
    go_ret
    refine ⟨?_, rfl⟩
    exact below_step (below_step hb3 (Below.refl _ _).drew) (below_step hb2 (below_step hb1 (((Below.refl _ w).alloc (Nat.le_refl _) _).alloc (by simp) _)))

set_option maxHeartbeats 8000000 in
set_option maxRecDepth 100000 in
theorem asked_nearer_ok_g (ax ay bx by' cx cy : Nat) (dx dy : Nat) (lo : Option Addr) (ln lc : Nat) (w : World) (h64 : ∀ p ∈ [(ax, ay), (bx, by'), (cx, cy)], p.1 < 2 ^ 64 ∧ p.2 < 2 ^ 64) (hok : okPts [(ax, ay), (bx, by'), (cx, cy)] = true) :
    Calls Tryz.prog 12 #[.agg #[.int .i64 2, .int .u64 ax, .int .u64 ay, .int .u64 bx, .int .u64 by', .int .u64 cx, .int .u64 cy, .int .u64 dx, .int .u64 dy, .slice lo ln lc]] w fun e w' => Below w.heap.size w w' ∧ e = .returned (.bool true) := by
  have hm : (mayB ax = true ∧ mayB ay = true) ∧ (mayB bx = true ∧ mayB by' = true) ∧ (mayB cx = true ∧ mayB cy = true) := by simpa [okPts] using hok
  have sax := crd_lt hm.1.1
  have say := crd_lt hm.1.2
  have sbx := crd_lt hm.2.1.1
  have sby := crd_lt hm.2.1.2
  have scx := crd_lt hm.2.2.1
  have scy := crd_lt hm.2.2.2
  have HO : Hid (∀ W, Calls Tryz.prog 17 #[.agg #[.int .u64 ax, .int .u64 ay], .agg #[.int .u64 bx, .int .u64 by'], .agg #[.int .u64 cx, .int .u64 cy]] W fun e w' => Below W.heap.size W w' ∧ e = .returned (.tuple #[.int .i64 (PlRd.sgn (((crd cx - crd ax) * (crd cx - crd ax) + (crd cy - crd ay) * (crd cy - crd ay)) - ((crd bx - crd ax) * (crd bx - crd ax) + (crd by' - crd ay) * (crd by' - crd ay)))), .int .i64 0])) :=
    fun W => by rw [← dist_crd hok]; exact nearer_ok ax ay bx by' cx cy W h64 hok
  clear hm
  go_enter Tryz.func12, Tryz.ntmps12
  go_wp2_with (first | (go_at_call 15; go_must (refine (points3_ok _ ax ay bx by' cx cy _ h64 (by simp [go_sem]) (by simp [go_sem]) (by simp [go_sem]) (by simp [go_sem]) (by simp [go_sem]) (by simp [go_sem]) (by simp) hok).mono ?_; rintro e w1 ⟨hb1, g, c0, qa, qb, qc, rfl, hQ, Pa, Pb, Pc⟩; obtain ⟨bx0, bx1, bx2, bx3, bx4, bx5, bx6⟩ := box_cells hb1; have kz1 := hb1.size; (try simp at kz1))) | (go_at_call 17; go_must (refine (HO.out _).mono ?_; rintro e w2 ⟨hb2, rfl⟩; have hQ2 := hQ.kept hb2; replace Pa := Pa.kept hb2; replace Pb := Pb.kept hb2; replace Pc := Pc.kept hb2; obtain ⟨bx0, bx1, bx2, bx3, bx4, bx5, bx6⟩ := box_cells (below_step hb2 hb1))))
  obtain ⟨nax, vax, lax, nay, vay, lay⟩ := qa; obtain ⟨nbx, vbx, lbx, nby, vby, lby⟩ := qb; obtain ⟨ncx, vcx, lcx, ncy, vcy, lcy⟩ := qc; obtain ⟨oax, cax, hfax⟩ := bg_form Pa.1; simp only at hfax; subst hfax; obtain ⟨oay, cay, hfay⟩ := bg_form Pa.2; simp only at hfay; subst hfay; obtain ⟨obx, cbx, hfbx⟩ := bg_form Pb.1; simp only at hfbx; subst hfbx; obtain ⟨oby, cby, hfby⟩ := bg_form Pb.2; simp only at hfby; subst hfby; obtain ⟨ocx, ccx, hfcx⟩ := bg_form Pc.1; simp only at hfcx; subst hfcx; obtain ⟨ocy, ccy, hfcy⟩ := bg_form Pc.2; simp only at hfcy; subst hfcy;
  obtain ⟨hQl, ⟨q0, q1, q2, q3⟩, ⟨q4, q5, q6, q7⟩, ⟨q8, q9, q10, q11⟩⟩ := hQ2
  have KS : ∀ w', Below w2.heap.size w2 w' → (w'.cell? ⟨g, 0, none⟩ = some (.bool nax) ∧ w'.cell? ⟨g, 1, none⟩ = some (.slice oax lax.length cax) ∧ w'.cell? ⟨g, 2, none⟩ = some (.bool nay) ∧ w'.cell? ⟨g, 3, none⟩ = some (.slice oay lay.length cay) ∧ w'.cell? ⟨g, 4, none⟩ = some (.bool nbx) ∧ w'.cell? ⟨g, 5, none⟩ = some (.slice obx lbx.length cbx) ∧ w'.cell? ⟨g, 6, none⟩ = some (.bool nby) ∧ w'.cell? ⟨g, 7, none⟩ = some (.slice oby lby.length cby) ∧ w'.cell? ⟨g, 8, none⟩ = some (.bool ncx) ∧ w'.cell? ⟨g, 9, none⟩ = some (.slice ocx lcx.length ccx) ∧ w'.cell? ⟨g, 10, none⟩ = some (.bool ncy) ∧ w'.cell? ⟨g, 11, none⟩ = some (.slice ocy lcy.length ccy)) ∧ Below w2.heap.size w2 w' := by
    intro w' hb
    have hc : ∀ j, w'.cell? ⟨g, j, none⟩ = w2.cell? ⟨g, j, none⟩ := fun j => hb.cell (p := ⟨g, j, none⟩) hQl
    simp only [hc]
    exact ⟨⟨q0, q1, q2, q3, q4, q5, q6, q7, q8, q9, q10, q11⟩, hb⟩
  have hS0 := KS w2 (Below.refl _ _)
  clear q0 q1 q2 q3 q4 q5 q6 q7 q8 q9 q10 q11 hQ
  go_region_held3 (fun w' => (w'.cell? ⟨g, 0, none⟩ = some (.bool nax) ∧ w'.cell? ⟨g, 1, none⟩ = some (.slice oax lax.length cax) ∧ w'.cell? ⟨g, 2, none⟩ = some (.bool nay) ∧ w'.cell? ⟨g, 3, none⟩ = some (.slice oay lay.length cay) ∧ w'.cell? ⟨g, 4, none⟩ = some (.bool nbx) ∧ w'.cell? ⟨g, 5, none⟩ = some (.slice obx lbx.length cbx) ∧ w'.cell? ⟨g, 6, none⟩ = some (.bool nby) ∧ w'.cell? ⟨g, 7, none⟩ = some (.slice oby lby.length cby) ∧ w'.cell? ⟨g, 8, none⟩ = some (.bool ncx) ∧ w'.cell? ⟨g, 9, none⟩ = some (.slice ocx lcx.length ccx) ∧ w'.cell? ⟨g, 10, none⟩ = some (.bool ncy) ∧ w'.cell? ⟨g, 11, none⟩ = some (.slice ocy lcy.length ccy)) ∧ Below w2.heap.size w2 w') (first | exact KS _ (Below.refl _ _).drew | (go_split_ands; first | exact KS _ (below_step hb6 (by assumption)) | exact KS _ (below_step hb5 (by assumption)) | exact KS _ (below_step hb4 (by assumption)) | exact KS _ (below_step hb3 (by assumption)) | exact KS _ (Below.drew (by assumption)) | exact KS _ (by assumption))) (first | (go_at_call 24; have g3 := hb3; go_must (refine (rsquare_any nax oax cax lax (crd ax) nay oay cay lay (crd ay) nbx obx cbx lbx (crd bx) nby oby cby lby (crd by') _ (Pa.1.kept (below_step hb3 (Below.refl _ _).drew)) sax (Pa.2.kept (below_step hb3 (Below.refl _ _).drew)) say (Pb.1.kept (below_step hb3 (Below.refl _ _).drew)) sbx (Pb.2.kept (below_step hb3 (Below.refl _ _).drew)) sby).mono ?_; rintro e w4 ⟨m4, v4, k4, rfl, hg4, hb4⟩; obtain ⟨a4, d4, hv4⟩ := bg_form hg4; subst hv4)) | (go_at_call 24; go_must (refine (rsquare_any nax oax cax lax (crd ax) nay oay cay lay (crd ay) ncx ocx ccx lcx (crd cx) ncy ocy ccy lcy (crd cy) _ (Pa.1.kept (Below.refl _ _).drew) sax (Pa.2.kept (Below.refl _ _).drew) say (Pc.1.kept (Below.refl _ _).drew) scx (Pc.2.kept (Below.refl _ _).drew) scy).mono ?_; rintro e w3 ⟨m3, v3, k3, rfl, hg3, hb3⟩; obtain ⟨a3, d3, hv3⟩ := bg_form hg3; subst hv3)) | (go_at_call 23; go_must (refine (less_bg m3 m4 _ _ k3 k4 _ _ _ (hg3.kept hb4) hg4 (small_of (sumsq_lt scx sax scy say) (by decide)) (small_of (sumsq_lt sbx sax sby say) (by decide))).mono ?_; rintro e w5 ⟨m5, v5, k5, rfl, hg5, hb5⟩; obtain ⟨a5, d5, hv5⟩ := bg_form hg5; subst hv5)) | (go_at_call 22; go_must (refine (sign_bg m5 _ k5 _ _ hg5).mono ?_; rintro e w6 ⟨rfl, hb6⟩)))
  all_goals
    go_wp2
    go_ret
    refine ⟨?_, rfl⟩
    exact below_step (below_step hb6 (below_step hb5 (below_step hb4 (below_step hb3 (Below.refl _ _).drew)))) (below_step hb2 (below_step hb1 (((Below.refl _ w).alloc (Nat.le_refl _) _).alloc (by simp) _)))

set_option maxHeartbeats 2000000 in
set_option maxRecDepth 100000 in
theorem step_orient_g (pw : Option Addr) (ax ay bx by' cx cy : Nat) (dx dy : Nat) (lo : Option Addr) (ln lc : Nat) (w : World) (h64 : ∀ p ∈ [(ax, ay), (bx, by'), (cx, cy)], p.1 < 2 ^ 64 ∧ p.2 < 2 ^ 64) :
    Calls Tryz.prog 10 #[.pointer pw, .agg #[.int .i64 1, .int .u64 ax, .int .u64 ay, .int .u64 bx, .int .u64 by', .int .u64 cx, .int .u64 cy, .int .u64 dx, .int .u64 dy, .slice lo ln lc]] w fun e w' => Below w.heap.size w w' ∧ e = .returned (.bool true) := by
  have HA : Hid (∀ W, Calls Tryz.prog 12 #[.agg #[.int .i64 1, .int .u64 ax, .int .u64 ay, .int .u64 bx, .int .u64 by', .int .u64 cx, .int .u64 cy, .int .u64 dx, .int .u64 dy, .slice lo ln lc]] W fun e w' => Below W.heap.size W w' ∧ e = .returned (.bool true)) := fun W => by
    rcases hok : okPts [(ax, ay), (bx, by'), (cx, cy)] with _ | _
    · exact asked_orient_no_g ax ay bx by' cx cy dx dy lo ln lc W h64 hok
    · exact asked_orient_ok_g ax ay bx by' cx cy dx dy lo ln lc W h64 hok
  go_enter Tryz.func10, Tryz.ntmps10
  go_wp2_with (go_at_call 12; go_must (refine (HA.out _).mono ?_; rintro e w1 ⟨hb1, rfl⟩))
  go_ret
  exact ⟨below_step hb1 ((Below.refl _ w).alloc (Nat.le_refl _) _), rfl⟩

set_option maxHeartbeats 2000000 in
set_option maxRecDepth 100000 in
theorem step_nearer_g (pw : Option Addr) (ax ay bx by' cx cy : Nat) (dx dy : Nat) (lo : Option Addr) (ln lc : Nat) (w : World) (h64 : ∀ p ∈ [(ax, ay), (bx, by'), (cx, cy)], p.1 < 2 ^ 64 ∧ p.2 < 2 ^ 64) :
    Calls Tryz.prog 10 #[.pointer pw, .agg #[.int .i64 2, .int .u64 ax, .int .u64 ay, .int .u64 bx, .int .u64 by', .int .u64 cx, .int .u64 cy, .int .u64 dx, .int .u64 dy, .slice lo ln lc]] w fun e w' => Below w.heap.size w w' ∧ e = .returned (.bool true) := by
  have HA : Hid (∀ W, Calls Tryz.prog 12 #[.agg #[.int .i64 2, .int .u64 ax, .int .u64 ay, .int .u64 bx, .int .u64 by', .int .u64 cx, .int .u64 cy, .int .u64 dx, .int .u64 dy, .slice lo ln lc]] W fun e w' => Below W.heap.size W w' ∧ e = .returned (.bool true)) := fun W => by
    rcases hok : okPts [(ax, ay), (bx, by'), (cx, cy)] with _ | _
    · exact asked_nearer_no_g ax ay bx by' cx cy dx dy lo ln lc W h64 hok
    · exact asked_nearer_ok_g ax ay bx by' cx cy dx dy lo ln lc W h64 hok
  go_enter Tryz.func10, Tryz.ntmps10
  go_wp2_with (go_at_call 12; go_must (refine (HA.out _).mono ?_; rintro e w1 ⟨hb1, rfl⟩))
  go_ret
  exact ⟨below_step hb1 ((Below.refl _ w).alloc (Nat.le_refl _) _), rfl⟩

end Go.Proofs.YtbjjkfmdkmbcfaaGreat
