import Derived.Test.YtbjjkfmdkmbcfaaGreatMLj
import Derived.Test.YtbjjkfmdkmbcfaaGreatMKq
import Derived.Test.YtbjjkfmdkmbcfaaGreatMSd
namespace Go.Proofs.YtbjjkfmdkmbcfaaGreat
open Go.RowKit
open PlLv

attribute [local go_sem ↓] Go.wp_at_zero Go.wp_at_succ

theorem sq_scale (x y E : Int) : sqI (x * E) (y * E) = sqI x y * (E * E) := by
  unfold sqI
  rw [mul4 x E x E, mul4 y E y E, ← Int.add_mul]

theorem cr_scale (x y z t E : Int) : crI (x * E) (y * E) (z * E) (t * E) = crI x y z t * (E * E) := by
  unfold crI
  rw [mul4 x E t E, mul4 y E z E, ← Int.sub_mul]

theorem circ_scale (a b c d e f E : Int) : circI (a * E) (b * E) (c * E) (d * E) (e * E) (f * E) = circI a b c d e f * ((E * E) * (E * E)) := by
  unfold circI
  simp only [sq_scale, cr_scale]
  rw [mul4 (sqI a b) (E * E) (crI c d e f) (E * E), mul4 (sqI c d) (E * E) (crI e f a b) (E * E), mul4 (sqI e f) (E * E) (crI a b c d) (E * E), ← Int.add_mul, ← Int.add_mul]

theorem circ_crd {ax ay bx by' cx cy dx dy : Nat} (hok : okPts [(ax, ay), (bx, by'), (cx, cy), (dx, dy)] = true) : PlRd.sgn (circI (valB ax - valB dx) (valB ay - valB dy) (valB bx - valB dx) (valB by' - valB dy) (valB cx - valB dx) (valB cy - valB dy)) = PlRd.sgn (circS (((crd ax - crd dx) * (crd ax - crd dx) + (crd ay - crd dy) * (crd ay - crd dy)) * ((crd bx - crd dx) * (crd cy - crd dy) - (crd by' - crd dy) * (crd cx - crd dx))) (((crd bx - crd dx) * (crd bx - crd dx) + (crd by' - crd dy) * (crd by' - crd dy)) * ((crd cx - crd dx) * (crd ay - crd dy) - (crd cy - crd dy) * (crd ax - crd dx))) (((crd cx - crd dx) * (crd cx - crd dx) + (crd cy - crd dy) * (crd cy - crd dy)) * ((crd ax - crd dx) * (crd by' - crd dy) - (crd ay - crd dy) * (crd bx - crd dx))) 3) := by
  have hm : (mayB ax = true ∧ mayB ay = true) ∧ (mayB bx = true ∧ mayB by' = true) ∧ (mayB cx = true ∧ mayB cy = true) ∧ (mayB dx = true ∧ mayB dy = true) := by simpa [okPts] using hok
  rw [valB_crd hm.1.1, valB_crd hm.1.2, valB_crd hm.2.1.1, valB_crd hm.2.1.2, valB_crd hm.2.2.1.1, valB_crd hm.2.2.1.2, valB_crd hm.2.2.2.1, valB_crd hm.2.2.2.2]
  rw [← Int.sub_mul, ← Int.sub_mul, ← Int.sub_mul, ← Int.sub_mul, ← Int.sub_mul, ← Int.sub_mul, circ_scale, sgn_mul _ _ (Int.mul_pos EE_pos EE_pos)]
  unfold circI sqI crI
  show _ = PlRd.sgn (0 + _ + _ + _)
  rw [Int.zero_add]

theorem circp_ok (ax ay bx by' cx cy dx dy : Nat) (w : World) (h64 : ∀ p ∈ [(ax, ay), (bx, by'), (cx, cy), (dx, dy)], p.1 < 2 ^ 64 ∧ p.2 < 2 ^ 64) (hok : okPts [(ax, ay), (bx, by'), (cx, cy), (dx, dy)] = true) :
    Calls Tryz.prog 18 #[.agg #[.int .u64 ax, .int .u64 ay], .agg #[.int .u64 bx, .int .u64 by'], .agg #[.int .u64 cx, .int .u64 cy], .agg #[.int .u64 dx, .int .u64 dy]] w fun e w' => Below w.heap.size w w' ∧ e = .returned (.tuple #[.int .i64 (PlRd.sgn (circS (((crd ax - crd dx) * (crd ax - crd dx) + (crd ay - crd dy) * (crd ay - crd dy)) * ((crd bx - crd dx) * (crd cy - crd dy) - (crd by' - crd dy) * (crd cx - crd dx))) (((crd bx - crd dx) * (crd bx - crd dx) + (crd by' - crd dy) * (crd by' - crd dy)) * ((crd cx - crd dx) * (crd ay - crd dy) - (crd cy - crd dy) * (crd ax - crd dx))) (((crd cx - crd dx) * (crd cx - crd dx) + (crd cy - crd dy) * (crd cy - crd dy)) * ((crd ax - crd dx) * (crd by' - crd dy) - (crd ay - crd dy) * (crd bx - crd dx))) 3)), .int .i64 0]) := by
  rw [← circ_crd hok]
  exact circle_ok ax ay bx by' cx cy dx dy w h64 hok

set_option maxHeartbeats 8000000 in
set_option maxRecDepth 100000 in
theorem asked_circle_no (ax ay bx by' cx cy dx dy : Nat) (w : World) (h64 : ∀ p ∈ [(ax, ay), (bx, by'), (cx, cy), (dx, dy)], p.1 < 2 ^ 64 ∧ p.2 < 2 ^ 64) (hok : okPts [(ax, ay), (bx, by'), (cx, cy), (dx, dy)] = false) :
    Calls Tryz.prog 12 #[.agg #[.int .i64 3, .int .u64 ax, .int .u64 ay, .int .u64 bx, .int .u64 by', .int .u64 cx, .int .u64 cy, .int .u64 dx, .int .u64 dy, .slice none 0 0]] w fun e w' => Below w.heap.size w w' ∧ e = .returned (.bool true) := by
  obtain ⟨i0, hi, hz0, hz1, hz2⟩ := info_parts infoPt
  go_enter Tryz.func12, Tryz.ntmps12
  go_upto_region 1 with fail
  generalize hW : World.alloc w _ = W
  have hWs : W.heap.size = w.heap.size + 1 := by subst hW; simp
  have hw : Below w.heap.size w W := by subst hW; exact (Below.refl _ _).alloc (Nat.le_refl _) _
  have KS : ∀ w', Below W.heap.size W w' → (w'.cell? ⟨w.heap.size, 0, none⟩ = some (.int .i64 3) ∧ w'.cell? ⟨w.heap.size, 1, none⟩ = some (.int .u64 ax) ∧ w'.cell? ⟨w.heap.size, 2, none⟩ = some (.int .u64 ay) ∧ w'.cell? ⟨w.heap.size, 3, none⟩ = some (.int .u64 bx) ∧ w'.cell? ⟨w.heap.size, 4, none⟩ = some (.int .u64 by') ∧ w'.cell? ⟨w.heap.size, 5, none⟩ = some (.int .u64 cx) ∧ w'.cell? ⟨w.heap.size, 6, none⟩ = some (.int .u64 cy) ∧ w'.cell? ⟨w.heap.size, 7, none⟩ = some (.int .u64 dx) ∧ w'.cell? ⟨w.heap.size, 8, none⟩ = some (.int .u64 dy)) := by
    intro w' hb
    obtain ⟨hc, _⟩ := bcell hb
    refine ⟨?_, ?_, ?_, ?_, ?_, ?_, ?_, ?_, ?_⟩
    all_goals (rw [hc _ _ (by omega)]; subst hW; simp [go_sem])
  have hlt : w.heap.size < W.heap.size := by omega
  clear hW hWs
  have hS0 := KS W (Below.refl _ _)
  go_wp2_with (first | (at_builtin; go_must (refine wpList_append_own _ rfl _ _ 26 rfl W.heap.size 24 i0 _ 2 16 Tryz.underlying26 hi hz0 hz1 hz2 rfl (by decide) _ 3 [.int .u64 ax, .int .u64 ay, .int .u64 bx, .int .u64 by', .int .u64 cx, .int .u64 cy] rfl (own_new6 rfl (Nat.le_refl _)) ⟨_, 0, none⟩ 1 1 [.int .u64 dx, .int .u64 dy] rfl rfl (cells_two (by simp [go_sem]) (by simp [go_sem])) (by intro u hu; simp at hu; rcases hu with rfl | rfl <;> rfl) (by unfold maxLen; omega) (by omega) (by simp <;> omega) ?_; intro v' wA hA1 hA2 _; obtain ⟨gA, cA, hvA, hgA, hcA⟩ := own8 hA1; subst hvA; have hWA : Below W.heap.size W wA := Below.grown (((Below.refl _ W).alloc (Nat.le_refl _) _).alloc (by simp) _) hA2 (by simp <;> omega) (fun k hk => by cases hk; exact Nat.le_refl _); have hSA := KS wA hWA; clear hA1 hA2)) | (go_at_call 15; go_must (refine (points4_no gA cA ax ay bx by' cx cy dx dy _ h64 (hcA 0 (by decide)) (hcA 1 (by decide)) (hcA 2 (by decide)) (hcA 3 (by decide)) (hcA 4 (by decide)) (hcA 5 (by decide)) (hcA 6 (by decide)) (hcA 7 (by decide)) hgA hok).mono ?_; rintro e w1 ⟨hb1, rfl⟩; have hW1 : Below W.heap.size W w1 := below_step hb1 hWA; have hS1 := KS w1 hW1)) | (go_at_call 18; go_must (refine (circle_no ax ay bx by' cx cy dx dy _ h64 hok).mono ?_; rintro e w2 ⟨hb2, rfl⟩; have hW2 : Below W.heap.size W w2 := below_step hb2 hW1)) | (go_at_call 20; go_must (refine (num_any _ _).mono ?_; rintro e w3 ⟨rfl, rfl⟩)))
  go_ret
  exact ⟨hw.trans (hW2.mono hw.size), rfl⟩

set_option maxHeartbeats 8000000 in
set_option maxRecDepth 100000 in
theorem asked_circle_ok (ax ay bx by' cx cy dx dy : Nat) (w : World) (h64 : ∀ p ∈ [(ax, ay), (bx, by'), (cx, cy), (dx, dy)], p.1 < 2 ^ 64 ∧ p.2 < 2 ^ 64) (hok : okPts [(ax, ay), (bx, by'), (cx, cy), (dx, dy)] = true) :
    Calls Tryz.prog 12 #[.agg #[.int .i64 3, .int .u64 ax, .int .u64 ay, .int .u64 bx, .int .u64 by', .int .u64 cx, .int .u64 cy, .int .u64 dx, .int .u64 dy, .slice none 0 0]] w fun e w' => Below w.heap.size w w' ∧ e = .returned (.bool true) := by
  have hm : (mayB ax = true ∧ mayB ay = true) ∧ (mayB bx = true ∧ mayB by' = true) ∧ (mayB cx = true ∧ mayB cy = true) ∧ (mayB dx = true ∧ mayB dy = true) := by simpa [okPts] using hok
  have sax := crd_lt hm.1.1
  have say := crd_lt hm.1.2
  have sbx := crd_lt hm.2.1.1
  have sby := crd_lt hm.2.1.2
  have scx := crd_lt hm.2.2.1.1
  have scy := crd_lt hm.2.2.1.2
  have sdx := crd_lt hm.2.2.2.1
  have sdy := crd_lt hm.2.2.2.2
  clear hm
  have HO : Hid (∀ V, Calls Tryz.prog 18 #[.agg #[.int .u64 ax, .int .u64 ay], .agg #[.int .u64 bx, .int .u64 by'], .agg #[.int .u64 cx, .int .u64 cy], .agg #[.int .u64 dx, .int .u64 dy]] V fun e w' => Below V.heap.size V w' ∧ e = .returned (.tuple #[.int .i64 (PlRd.sgn (circS (((crd ax - crd dx) * (crd ax - crd dx) + (crd ay - crd dy) * (crd ay - crd dy)) * ((crd bx - crd dx) * (crd cy - crd dy) - (crd by' - crd dy) * (crd cx - crd dx))) (((crd bx - crd dx) * (crd bx - crd dx) + (crd by' - crd dy) * (crd by' - crd dy)) * ((crd cx - crd dx) * (crd ay - crd dy) - (crd cy - crd dy) * (crd ax - crd dx))) (((crd cx - crd dx) * (crd cx - crd dx) + (crd cy - crd dy) * (crd cy - crd dy)) * ((crd ax - crd dx) * (crd by' - crd dy) - (crd ay - crd dy) * (crd bx - crd dx))) 3)), .int .i64 0])) := fun V => circp_ok ax ay bx by' cx cy dx dy V h64 hok
  obtain ⟨i0, hi, hz0, hz1, hz2⟩ := info_parts infoPt
  go_enter Tryz.func12, Tryz.ntmps12
  go_upto_region 1 with fail
  generalize hW : World.alloc w _ = W
  have hWs : W.heap.size = w.heap.size + 1 := by subst hW; simp
  have hw : Below w.heap.size w W := by subst hW; exact (Below.refl _ _).alloc (Nat.le_refl _) _
  have KS : ∀ w', Below W.heap.size W w' → (w'.cell? ⟨w.heap.size, 0, none⟩ = some (.int .i64 3) ∧ w'.cell? ⟨w.heap.size, 1, none⟩ = some (.int .u64 ax) ∧ w'.cell? ⟨w.heap.size, 2, none⟩ = some (.int .u64 ay) ∧ w'.cell? ⟨w.heap.size, 3, none⟩ = some (.int .u64 bx) ∧ w'.cell? ⟨w.heap.size, 4, none⟩ = some (.int .u64 by') ∧ w'.cell? ⟨w.heap.size, 5, none⟩ = some (.int .u64 cx) ∧ w'.cell? ⟨w.heap.size, 6, none⟩ = some (.int .u64 cy) ∧ w'.cell? ⟨w.heap.size, 7, none⟩ = some (.int .u64 dx) ∧ w'.cell? ⟨w.heap.size, 8, none⟩ = some (.int .u64 dy)) := by
    intro w' hb
    obtain ⟨hc, _⟩ := bcell hb
    refine ⟨?_, ?_, ?_, ?_, ?_, ?_, ?_, ?_, ?_⟩
    all_goals (rw [hc _ _ (by omega)]; subst hW; simp [go_sem])
  have hlt : w.heap.size < W.heap.size := by omega
  clear hW hWs
  have hS0 := KS W (Below.refl _ _)
  go_wp2_with (first | (at_builtin; go_must (refine wpList_append_own _ rfl _ _ 26 rfl W.heap.size 24 i0 _ 2 16 Tryz.underlying26 hi hz0 hz1 hz2 rfl (by decide) _ 3 [.int .u64 ax, .int .u64 ay, .int .u64 bx, .int .u64 by', .int .u64 cx, .int .u64 cy] rfl (own_new6 rfl (Nat.le_refl _)) ⟨_, 0, none⟩ 1 1 [.int .u64 dx, .int .u64 dy] rfl rfl (cells_two (by simp [go_sem]) (by simp [go_sem])) (by intro u hu; simp at hu; rcases hu with rfl | rfl <;> rfl) (by unfold maxLen; omega) (by omega) (by simp <;> omega) ?_; intro v' wA hA1 hA2 _; obtain ⟨gA, cA, hvA, hgA, hcA⟩ := own8 hA1; subst hvA; have hWA : Below W.heap.size W wA := Below.grown (((Below.refl _ W).alloc (Nat.le_refl _) _).alloc (by simp) _) hA2 (by simp <;> omega) (fun k hk => by cases hk; exact Nat.le_refl _); have hSA := KS wA hWA; clear hA1 hA2)) | (go_at_call 15; go_must (refine (points4_ok gA cA ax ay bx by' cx cy dx dy _ h64 (hcA 0 (by decide)) (hcA 1 (by decide)) (hcA 2 (by decide)) (hcA 3 (by decide)) (hcA 4 (by decide)) (hcA 5 (by decide)) (hcA 6 (by decide)) (hcA 7 (by decide)) hgA hok).mono ?_; rintro e w1 ⟨hb1, g, c0, qa, qb, qc, qd, rfl, hQ, Pa, Pb, Pc, Pd⟩; have hW1 : Below W.heap.size W w1 := below_step hb1 hWA; have hS1 := KS w1 hW1)) | (go_at_call 18; go_must (refine (HO.out _).mono ?_; rintro e w2 ⟨hb2, rfl⟩; have hW2 : Below W.heap.size W w2 := below_step hb2 hW1; have hS2 := KS w2 hW2; replace hQ := hQ.kept hb2; replace Pa := Pa.kept hb2; replace Pb := Pb.kept hb2; replace Pc := Pc.kept hb2; replace Pd := Pd.kept hb2)))
  obtain ⟨nax, vax, lax, nay, vay, lay⟩ := qa
  obtain ⟨nbx, vbx, lbx, nby, vby, lby⟩ := qb
  obtain ⟨ncx, vcx, lcx, ncy, vcy, lcy⟩ := qc
  obtain ⟨ndx, vdx, ldx, ndy, vdy, ldy⟩ := qd
  obtain ⟨oax, kax, hfax⟩ := bg_form Pa.1; simp only at hfax; subst hfax
  obtain ⟨oay, kay, hfay⟩ := bg_form Pa.2; simp only at hfay; subst hfay
  obtain ⟨obx, kbx, hfbx⟩ := bg_form Pb.1; simp only at hfbx; subst hfbx
  obtain ⟨oby, kby, hfby⟩ := bg_form Pb.2; simp only at hfby; subst hfby
  obtain ⟨ocx, kcx, hfcx⟩ := bg_form Pc.1; simp only at hfcx; subst hfcx
  obtain ⟨ocy, kcy, hfcy⟩ := bg_form Pc.2; simp only at hfcy; subst hfcy
  obtain ⟨odx, kdx, hfdx⟩ := bg_form Pd.1; simp only at hfdx; subst hfdx
  obtain ⟨ody, kdy, hfdy⟩ := bg_form Pd.2; simp only at hfdy; subst hfdy
  have KQ : ∀ w', Below w2.heap.size w2 w' → (w'.cell? ⟨g, 0, none⟩ = some (.bool nax) ∧ w'.cell? ⟨g, 1, none⟩ = some (.slice oax lax.length kax) ∧ w'.cell? ⟨g, 2, none⟩ = some (.bool nay) ∧ w'.cell? ⟨g, 3, none⟩ = some (.slice oay lay.length kay) ∧ w'.cell? ⟨g, 4, none⟩ = some (.bool nbx) ∧ w'.cell? ⟨g, 5, none⟩ = some (.slice obx lbx.length kbx) ∧ w'.cell? ⟨g, 6, none⟩ = some (.bool nby) ∧ w'.cell? ⟨g, 7, none⟩ = some (.slice oby lby.length kby) ∧ w'.cell? ⟨g, 8, none⟩ = some (.bool ncx) ∧ w'.cell? ⟨g, 9, none⟩ = some (.slice ocx lcx.length kcx) ∧ w'.cell? ⟨g, 10, none⟩ = some (.bool ncy) ∧ w'.cell? ⟨g, 11, none⟩ = some (.slice ocy lcy.length kcy) ∧ w'.cell? ⟨g, 12, none⟩ = some (.bool ndx) ∧ w'.cell? ⟨g, 13, none⟩ = some (.slice odx ldx.length kdx) ∧ w'.cell? ⟨g, 14, none⟩ = some (.bool ndy) ∧ w'.cell? ⟨g, 15, none⟩ = some (.slice ody ldy.length kdy)) := fun w' hb => (hQ.kept hb).cs
  have hQ0 := KQ w2 (Below.refl _ _)
  clear hQ
  go_region_held3 (fun w' : World => (w'.cell? ⟨g, 0, none⟩ = some (.bool nax) ∧ w'.cell? ⟨g, 1, none⟩ = some (.slice oax lax.length kax) ∧ w'.cell? ⟨g, 2, none⟩ = some (.bool nay) ∧ w'.cell? ⟨g, 3, none⟩ = some (.slice oay lay.length kay) ∧ w'.cell? ⟨g, 4, none⟩ = some (.bool nbx) ∧ w'.cell? ⟨g, 5, none⟩ = some (.slice obx lbx.length kbx) ∧ w'.cell? ⟨g, 6, none⟩ = some (.bool nby) ∧ w'.cell? ⟨g, 7, none⟩ = some (.slice oby lby.length kby) ∧ w'.cell? ⟨g, 8, none⟩ = some (.bool ncx) ∧ w'.cell? ⟨g, 9, none⟩ = some (.slice ocx lcx.length kcx) ∧ w'.cell? ⟨g, 10, none⟩ = some (.bool ncy) ∧ w'.cell? ⟨g, 11, none⟩ = some (.slice ocy lcy.length kcy) ∧ w'.cell? ⟨g, 12, none⟩ = some (.bool ndx) ∧ w'.cell? ⟨g, 13, none⟩ = some (.slice odx ldx.length kdx) ∧ w'.cell? ⟨g, 14, none⟩ = some (.bool ndy) ∧ w'.cell? ⟨g, 15, none⟩ = some (.slice ody ldy.length kdy))) (exact KQ _ (by repeat (first | exact hV3 | exact Below.refl _ _ | refine Below.drew ?_))) (first | (go_at_call 25; go_must (refine (rcircle_any nax oax kax lax (crd ax) nay oay kay lay (crd ay) nbx obx kbx lbx (crd bx) nby oby kby lby (crd by') ncx ocx kcx lcx (crd cx) ncy ocy kcy lcy (crd cy) ndx odx kdx ldx (crd dx) ndy ody kdy ldy (crd dy) _ (Pa.1.kept (by repeat (first | exact Below.refl _ _ | refine Below.drew ?_))) sax (Pa.2.kept (by repeat (first | exact Below.refl _ _ | refine Below.drew ?_))) say (Pb.1.kept (by repeat (first | exact Below.refl _ _ | refine Below.drew ?_))) sbx (Pb.2.kept (by repeat (first | exact Below.refl _ _ | refine Below.drew ?_))) sby (Pc.1.kept (by repeat (first | exact Below.refl _ _ | refine Below.drew ?_))) scx (Pc.2.kept (by repeat (first | exact Below.refl _ _ | refine Below.drew ?_))) scy (Pd.1.kept (by repeat (first | exact Below.refl _ _ | refine Below.drew ?_))) sdx (Pd.2.kept (by repeat (first | exact Below.refl _ _ | refine Below.drew ?_))) sdy).mono ?_; rintro e w3 ⟨hb3, rfl⟩; have hV3 : Below w2.heap.size w2 w3 := below_step hb3 (by repeat (first | exact Below.refl _ _ | refine Below.drew ?_)))))
  all_goals
    go_wp2
    go_ret
    exact ⟨hw.trans ((below_step hV3 hW2).mono hw.size), rfl⟩

end Go.Proofs.YtbjjkfmdkmbcfaaGreat
