import Derived.Test.YtbjjkfmdkmbcfaaKn
namespace Go.Proofs.Ytbjjkfmdkmbcfaa
open Go.RowKit
open PlRd (sgn)

attribute [local go_sem ↓] Go.wp_at_zero Go.wp_at_succ

structure TuR (a0 a1 b0 b1 c0 c1 t : Int) : Prop where
  out : ∀ V, Calls Try.prog 17 #[.agg #[.int .i64 a0, .int .i64 a1], .agg #[.int .i64 b0, .int .i64 b1], .agg #[.int .i64 c0, .int .i64 c1]] V fun e w' => e = .returned (.int .i64 t) ∧ Below V.heap.size V w'
theorem TuR.use {a0 a1 b0 b1 c0 c1 t : Int} (h : TuR a0 a1 b0 b1 c0 c1 t) (V : World) : Calls Try.prog 17 #[.agg #[.int .i64 a0, .int .i64 a1], .agg #[.int .i64 b0, .int .i64 b1], .agg #[.int .i64 c0, .int .i64 c1]] V fun e w' => e = .returned (.int .i64 t) ∧ Below V.heap.size V w' := h.out V

set_option maxHeartbeats 16000000 in
set_option maxRecDepth 100000 in
theorem whole_walk (a0 a1 b0 b1 c0 c1 d0 d1 pw k AX AY BX BY CX CY OX OY : Int) (w : World)
    (ha : AtR a0 a1 AX AY) (hb : AtR b0 b1 BX BY) (hc : AtR c0 c1 CX CY) (hd : AtR d0 d1 OX OY) (pa : PtR a0 a1 k AX AY) (pb : PtR b0 b1 k BX BY) (pc : PtR c0 c1 k CX CY) (pd : PtR d0 d1 k OX OY) (hs : ScR pw k) (ht : TuR a0 a1 b0 b1 c0 c1 (turnW (AX, AY) (BX, BY) (CX, CY)))
    (qU1 : -8000 ≤ AX - OX ∧ AX - OX ≤ 8000) (qU2 : -8000 ≤ AY - OY ∧ AY - OY ≤ 8000) (qV1 : -8000 ≤ BX - OX ∧ BX - OX ≤ 8000) (qV2 : -8000 ≤ BY - OY ∧ BY - OY ≤ 8000) (qW1 : -8000 ≤ CX - OX ∧ CX - OX ≤ 8000) (qW2 : -8000 ≤ CY - OY ∧ CY - OY ≤ 8000) :
    Calls Try.prog 5 #[.agg #[.int .i64 a0, .int .i64 a1], .agg #[.int .i64 b0, .int .i64 b1], .agg #[.int .i64 c0, .int .i64 c1], .agg #[.int .i64 d0, .int .i64 d1], .int .i64 pw] w fun e w' => e = .returned (.bool true) ∧ Below w.heap.size w w' := by
  obtain ⟨U1, eU1⟩ : ∃ D, AX - OX = D := ⟨_, rfl⟩
  rw [eU1] at qU1
  obtain ⟨U2, eU2⟩ : ∃ D, AY - OY = D := ⟨_, rfl⟩
  rw [eU2] at qU2
  obtain ⟨V1, eV1⟩ : ∃ D, BX - OX = D := ⟨_, rfl⟩
  rw [eV1] at qV1
  obtain ⟨V2, eV2⟩ : ∃ D, BY - OY = D := ⟨_, rfl⟩
  rw [eV2] at qV2
  obtain ⟨W1, eW1⟩ : ∃ D, CX - OX = D := ⟨_, rfl⟩
  rw [eW1] at qW1
  obtain ⟨W2, eW2⟩ : ∃ D, CY - OY = D := ⟨_, rfl⟩
  rw [eW2] at qW2
  obtain ⟨sU1, gsU1⟩ : ∃ D, U1 * U1 = D := ⟨_, rfl⟩
  have rsU1 := pr_bound qU1 qU1
  rw [gsU1] at rsU1
  obtain ⟨sU2, gsU2⟩ : ∃ D, U2 * U2 = D := ⟨_, rfl⟩
  have rsU2 := pr_bound qU2 qU2
  rw [gsU2] at rsU2
  obtain ⟨sV1, gsV1⟩ : ∃ D, V1 * V1 = D := ⟨_, rfl⟩
  have rsV1 := pr_bound qV1 qV1
  rw [gsV1] at rsV1
  obtain ⟨sV2, gsV2⟩ : ∃ D, V2 * V2 = D := ⟨_, rfl⟩
  have rsV2 := pr_bound qV2 qV2
  rw [gsV2] at rsV2
  obtain ⟨sW1, gsW1⟩ : ∃ D, W1 * W1 = D := ⟨_, rfl⟩
  have rsW1 := pr_bound qW1 qW1
  rw [gsW1] at rsW1
  obtain ⟨sW2, gsW2⟩ : ∃ D, W2 * W2 = D := ⟨_, rfl⟩
  have rsW2 := pr_bound qW2 qW2
  rw [gsW2] at rsW2
  obtain ⟨x1, gx1⟩ : ∃ D, V1 * W2 = D := ⟨_, rfl⟩
  have rx1 := pr_bound qV1 qW2
  rw [gx1] at rx1
  obtain ⟨x2, gx2⟩ : ∃ D, V2 * W1 = D := ⟨_, rfl⟩
  have rx2 := pr_bound qV2 qW1
  rw [gx2] at rx2
  obtain ⟨x3, gx3⟩ : ∃ D, W1 * U2 = D := ⟨_, rfl⟩
  have rx3 := pr_bound qW1 qU2
  rw [gx3] at rx3
  obtain ⟨x4, gx4⟩ : ∃ D, W2 * U1 = D := ⟨_, rfl⟩
  have rx4 := pr_bound qW2 qU1
  rw [gx4] at rx4
  obtain ⟨x5, gx5⟩ : ∃ D, U1 * V2 = D := ⟨_, rfl⟩
  have rx5 := pr_bound qU1 qV2
  rw [gx5] at rx5
  obtain ⟨x6, gx6⟩ : ∃ D, U2 * V1 = D := ⟨_, rfl⟩
  have rx6 := pr_bound qU2 qV1
  rw [gx6] at rx6
  obtain ⟨t1, gt1⟩ : ∃ D, (sU1 + sU2) * (x1 - x2) = D := ⟨_, rfl⟩
  have rt1 := pr_bound (m := 128000000) (n := 128000000) (x := sU1 + sU2) (y := x1 - x2) (by omega) (by omega)
  rw [gt1] at rt1
  obtain ⟨t2, gt2⟩ : ∃ D, (sV1 + sV2) * (x3 - x4) = D := ⟨_, rfl⟩
  have rt2 := pr_bound (m := 128000000) (n := 128000000) (x := sV1 + sV2) (y := x3 - x4) (by omega) (by omega)
  rw [gt2] at rt2
  obtain ⟨t3, gt3⟩ : ∃ D, (sW1 + sW2) * (x5 - x6) = D := ⟨_, rfl⟩
  have rt3 := pr_bound (m := 128000000) (n := 128000000) (x := sW1 + sW2) (y := x5 - x6) (by omega) (by omega)
  rw [gt3] at rt3
  have HC : Hid (circW (AX, AY) (BX, BY) (CX, CY) (OX, OY) = t1 + t2 + t3) := by
    unfold Hid circW circI sqI crI
    simp only [eU1, eU2, eV1, eV2, eW1, eW2, gsU1, gsU2, gsV1, gsV2, gsW1, gsW2, gx1, gx2, gx3, gx4, gx5, gx6, gt1, gt2, gt3]
  have f0 : F64 U1 := ⟨by omega, by omega⟩
  have f1 : F64 U2 := ⟨by omega, by omega⟩
  have f2 : F64 V1 := ⟨by omega, by omega⟩
  have f3 : F64 V2 := ⟨by omega, by omega⟩
  have f4 : F64 W1 := ⟨by omega, by omega⟩
  have f5 : F64 W2 := ⟨by omega, by omega⟩
  have f6 : F64 sU1 := ⟨by omega, by omega⟩
  have f7 : F64 sU2 := ⟨by omega, by omega⟩
  have f8 : F64 sV1 := ⟨by omega, by omega⟩
  have f9 : F64 sV2 := ⟨by omega, by omega⟩
  have f10 : F64 sW1 := ⟨by omega, by omega⟩
  have f11 : F64 sW2 := ⟨by omega, by omega⟩
  have f12 : F64 x1 := ⟨by omega, by omega⟩
  have f13 : F64 x2 := ⟨by omega, by omega⟩
  have f14 : F64 x3 := ⟨by omega, by omega⟩
  have f15 : F64 x4 := ⟨by omega, by omega⟩
  have f16 : F64 x5 := ⟨by omega, by omega⟩
  have f17 : F64 x6 := ⟨by omega, by omega⟩
  have f18 : F64 (sU1 + sU2) := ⟨by omega, by omega⟩
  have f19 : F64 (sV1 + sV2) := ⟨by omega, by omega⟩
  have f20 : F64 (sW1 + sW2) := ⟨by omega, by omega⟩
  have f21 : F64 (x1 - x2) := ⟨by omega, by omega⟩
  have f22 : F64 (x3 - x4) := ⟨by omega, by omega⟩
  have f23 : F64 (x5 - x6) := ⟨by omega, by omega⟩
  have f24 : F64 t1 := ⟨by omega, by omega⟩
  have f25 : F64 t2 := ⟨by omega, by omega⟩
  have f26 : F64 t3 := ⟨by omega, by omega⟩
  have f27 : F64 (t1 + t2) := ⟨by omega, by omega⟩
  have f28 : F64 (t1 + t2 + t3) := ⟨by omega, by omega⟩
  have z0 := f0.wrap
  have z1 := f1.wrap
  have z2 := f2.wrap
  have z3 := f3.wrap
  have z4 := f4.wrap
  have z5 := f5.wrap
  have z6 := f6.wrap
  have z7 := f7.wrap
  have z8 := f8.wrap
  have z9 := f9.wrap
  have z10 := f10.wrap
  have z11 := f11.wrap
  have z12 := f12.wrap
  have z13 := f13.wrap
  have z14 := f14.wrap
  have z15 := f15.wrap
  have z16 := f16.wrap
  have z17 := f17.wrap
  have z18 := f18.wrap
  have z19 := f19.wrap
  have z20 := f20.wrap
  have z21 := f21.wrap
  have z22 := f22.wrap
  have z23 := f23.wrap
  have z24 := f24.wrap
  have z25 := f25.wrap
  have z26 := f26.wrap
  have z27 := f27.wrap
  have z28 := f28.wrap
  clear f0 f1 f2 f3 f4 f5 f6 f7 f8 f9 f10 f11 f12 f13 f14 f15 f16 f17 f18 f19 f20 f21 f22 f23 f24 f25 f26 f27 f28 rsU1 rsU2 rsV1 rsV2 rsW1 rsW2 rx1 rx2 rx3 rx4 rx5 rx6 rt1 rt2 rt3 qU1 qU2 qV1 qV2 qW1 qW2
  go_enter Try.func5, Try.ntmps5
  go_upto_region 1 with fail
  generalize hWd : World.alloc (World.alloc (World.alloc (World.alloc w _) _) _) _ = W
  have hWs : W.heap.size = w.heap.size + 4 := by subst hWd; simp
  have hw : Below w.heap.size w W := by
    subst hWd
    exact (((((Below.refl _ w).alloc (by simp) _).alloc (by simp) _).alloc (by simp [Nat.le_succ_of_le]) _).alloc (by simp [Nat.le_succ_of_le]) _)
  have KS : ∀ w', Below W.heap.size W w' → (w'.cell? ⟨w.heap.size, 0, none⟩ = some (.int .i64 a0) ∧ w'.cell? ⟨w.heap.size, 1, none⟩ = some (.int .i64 a1)) ∧ (w'.cell? ⟨w.heap.size + 1, 0, none⟩ = some (.int .i64 b0) ∧ w'.cell? ⟨w.heap.size + 1, 1, none⟩ = some (.int .i64 b1)) ∧ (w'.cell? ⟨w.heap.size + 1 + 1, 0, none⟩ = some (.int .i64 c0) ∧ w'.cell? ⟨w.heap.size + 1 + 1, 1, none⟩ = some (.int .i64 c1)) ∧ (w'.cell? ⟨w.heap.size + 1 + 1 + 1, 0, none⟩ = some (.int .i64 d0) ∧ w'.cell? ⟨w.heap.size + 1 + 1 + 1, 1, none⟩ = some (.int .i64 d1)) := by
    intro w' hb
    obtain ⟨hc, _⟩ := bcell hb
    refine ⟨⟨?_, ?_⟩, ⟨?_, ?_⟩, ⟨?_, ?_⟩, ⟨?_, ?_⟩⟩
    all_goals (rw [hc _ _ (by rw [hWs]; simp [Nat.lt_succ_iff, Nat.le_succ_of_le])]; subst hWd; simp [go_sem])
  clear hWd hWs
  have hS := KS W (Below.refl _ _)
  have hW : Below W.heap.size W W := Below.refl _ _
  go_upto_region 3 with (first | (go_at_call 9; go_must (refine (known_any _).mono ?_; rintro e wk ⟨rfl, hbk⟩; have hW := below_step hbk hW; have hS := KS _ hW)) | (go_at_call 13; go_must (refine (ScR.use (by assumption) _).mono ?_; rintro e w1 ⟨rfl, rfl⟩)))
  go_region_held3 (fun w' : World => (w'.cell? ⟨w.heap.size, 0, none⟩ = some (.int .i64 a0) ∧ w'.cell? ⟨w.heap.size, 1, none⟩ = some (.int .i64 a1)) ∧ (w'.cell? ⟨w.heap.size + 1, 0, none⟩ = some (.int .i64 b0) ∧ w'.cell? ⟨w.heap.size + 1, 1, none⟩ = some (.int .i64 b1)) ∧ (w'.cell? ⟨w.heap.size + 1 + 1, 0, none⟩ = some (.int .i64 c0) ∧ w'.cell? ⟨w.heap.size + 1 + 1, 1, none⟩ = some (.int .i64 c1)) ∧ (w'.cell? ⟨w.heap.size + 1 + 1 + 1, 0, none⟩ = some (.int .i64 d0) ∧ w'.cell? ⟨w.heap.size + 1 + 1 + 1, 1, none⟩ = some (.int .i64 d1))) (exact KS _ (by repeat (with_reducible first | refine below_alloc _ ?_ | refine Below.drew ?_ | exact hW | exact Below.refl _ _))) (first | (go_at_call 14; go_must (refine (PtR.use (by assumption) _).mono ?_; rintro e wk ⟨u1, v1, rfl, hu1, hv1, hbk⟩; have hW : Below W.heap.size W wk := below_step hbk (by repeat (with_reducible first | refine below_alloc _ ?_ | refine Below.drew ?_ | exact hW | exact Below.refl _ _)))) | (go_at_call 10; go_must (refine (orient_bt (by assumption) (by assumption) (by assumption) (by assumption) (by assumption) (by assumption) _).mono ?_; rintro e wk ⟨hbk, rfl⟩; have hW : Below W.heap.size W wk := below_step hbk (by repeat (with_reducible first | refine below_alloc _ ?_ | refine Below.drew ?_ | exact hW | exact Below.refl _ _)))))
  all_goals
    have hS := KS _ hW
    go_upto_region 4 with fail
    go_region_held3 (fun w' : World => (w'.cell? ⟨w.heap.size, 0, none⟩ = some (.int .i64 a0) ∧ w'.cell? ⟨w.heap.size, 1, none⟩ = some (.int .i64 a1)) ∧ (w'.cell? ⟨w.heap.size + 1, 0, none⟩ = some (.int .i64 b0) ∧ w'.cell? ⟨w.heap.size + 1, 1, none⟩ = some (.int .i64 b1)) ∧ (w'.cell? ⟨w.heap.size + 1 + 1, 0, none⟩ = some (.int .i64 c0) ∧ w'.cell? ⟨w.heap.size + 1 + 1, 1, none⟩ = some (.int .i64 c1)) ∧ (w'.cell? ⟨w.heap.size + 1 + 1 + 1, 0, none⟩ = some (.int .i64 d0) ∧ w'.cell? ⟨w.heap.size + 1 + 1 + 1, 1, none⟩ = some (.int .i64 d1))) (exact KS _ (by repeat (with_reducible first | refine below_alloc _ ?_ | refine Below.drew ?_ | exact hW | exact Below.refl _ _))) (first | (go_at_call 14; go_must (refine (PtR.use (by assumption) _).mono ?_; rintro e wk ⟨u1, v1, rfl, hu1, hv1, hbk⟩; have hW : Below W.heap.size W wk := below_step hbk (by repeat (with_reducible first | refine below_alloc _ ?_ | refine Below.drew ?_ | exact hW | exact Below.refl _ _)))) | (go_at_call 11; go_must (refine (circle_bt (by assumption) (by assumption) (by assumption) (by assumption) (by assumption) (by assumption) (by assumption) (by assumption) _).mono ?_; rintro e wk ⟨hbk, rfl⟩; have hW : Below W.heap.size W wk := below_step hbk (by repeat (with_reducible first | refine below_alloc _ ?_ | refine Below.drew ?_ | exact hW | exact Below.refl _ _)))))
    all_goals
      have hS := KS _ hW
      go_upto_region 6 with (first | (go_at_call 15; go_must (refine (AtR.use (by assumption) _).mono ?_; rintro e wk ⟨rfl, hbk⟩; have hW : Below W.heap.size W wk := below_step hbk (by repeat (with_reducible first | refine below_alloc _ ?_ | refine Below.drew ?_ | exact hW | exact Below.refl _ _)))))
      obtain ⟨bO, hbO⟩ : ∃ z, z = wk.heap.size := ⟨_, rfl⟩
      rw [← hbO]
      generalize hWd : World.alloc wk _ = WO
      have hnO : Below W.heap.size W WO := by subst hWd; exact below_alloc _ hW
      have KSO : ∀ w', Below WO.heap.size WO w' → (w'.cell? ⟨w.heap.size, 0, none⟩ = some (.int .i64 a0) ∧ w'.cell? ⟨w.heap.size, 1, none⟩ = some (.int .i64 a1)) ∧ (w'.cell? ⟨w.heap.size + 1, 0, none⟩ = some (.int .i64 b0) ∧ w'.cell? ⟨w.heap.size + 1, 1, none⟩ = some (.int .i64 b1)) ∧ (w'.cell? ⟨w.heap.size + 1 + 1, 0, none⟩ = some (.int .i64 c0) ∧ w'.cell? ⟨w.heap.size + 1 + 1, 1, none⟩ = some (.int .i64 c1)) ∧ (w'.cell? ⟨w.heap.size + 1 + 1 + 1, 0, none⟩ = some (.int .i64 d0) ∧ w'.cell? ⟨w.heap.size + 1 + 1 + 1, 1, none⟩ = some (.int .i64 d1)) ∧ (w'.cell? ⟨bO, 0, none⟩ = some (.int .i64 OX) ∧ w'.cell? ⟨bO, 1, none⟩ = some (.int .i64 OY)) := by
        intro w' hb
        obtain ⟨hc, _⟩ := bcell hb
        have hlt : bO < WO.heap.size := by subst hWd; rw [hbO]; simp
        have h9 := KS w' (hnO.trans (hb.mono hnO.size))
        have h8 : w'.cell? ⟨bO, 0, none⟩ = some (.int .i64 OX) ∧ w'.cell? ⟨bO, 1, none⟩ = some (.int .i64 OY) := by
          rw [hc _ _ hlt, hc _ _ hlt]
          subst hWd
          simp [go_sem, hbO]
        exact ⟨h9.1, h9.2.1, h9.2.2.1, h9.2.2.2, h8⟩
      have hwO : Below w.heap.size w WO := hw.trans (hnO.mono hw.size)
      clear hWd hbO hW hbk
      clear wk
      have hS := KSO WO (Below.refl _ _)
      have hW : Below WO.heap.size WO WO := Below.refl _ _
      go_upto_region 7 with fail
      go_region_held3 (fun w' : World => (w'.cell? ⟨w.heap.size, 0, none⟩ = some (.int .i64 a0) ∧ w'.cell? ⟨w.heap.size, 1, none⟩ = some (.int .i64 a1)) ∧ (w'.cell? ⟨w.heap.size + 1, 0, none⟩ = some (.int .i64 b0) ∧ w'.cell? ⟨w.heap.size + 1, 1, none⟩ = some (.int .i64 b1)) ∧ (w'.cell? ⟨w.heap.size + 1 + 1, 0, none⟩ = some (.int .i64 c0) ∧ w'.cell? ⟨w.heap.size + 1 + 1, 1, none⟩ = some (.int .i64 c1)) ∧ (w'.cell? ⟨w.heap.size + 1 + 1 + 1, 0, none⟩ = some (.int .i64 d0) ∧ w'.cell? ⟨w.heap.size + 1 + 1 + 1, 1, none⟩ = some (.int .i64 d1)) ∧ (w'.cell? ⟨bO, 0, none⟩ = some (.int .i64 OX) ∧ w'.cell? ⟨bO, 1, none⟩ = some (.int .i64 OY))) (exact KSO _ (by repeat (with_reducible first | refine below_alloc _ ?_ | refine Below.drew ?_ | exact hW | exact Below.refl _ _))) (first | (go_at_call 15; go_must (refine (AtR.use (by assumption) _).mono ?_; rintro e wk ⟨rfl, hbk⟩; have hW : Below WO.heap.size WO wk := below_step hbk (by repeat (with_reducible first | refine below_alloc _ ?_ | refine Below.drew ?_ | exact hW | exact Below.refl _ _)))))
      all_goals
        obtain ⟨bL, hbL⟩ : ∃ z, z = wk.heap.size := ⟨_, rfl⟩
        rw [← hbL]
        generalize hWd : World.alloc wk _ = WL
        have hnL : Below WO.heap.size WO WL := by subst hWd; exact below_alloc _ hW
        have KSL : ∀ w', Below WL.heap.size WL w' → (w'.cell? ⟨w.heap.size, 0, none⟩ = some (.int .i64 a0) ∧ w'.cell? ⟨w.heap.size, 1, none⟩ = some (.int .i64 a1)) ∧ (w'.cell? ⟨w.heap.size + 1, 0, none⟩ = some (.int .i64 b0) ∧ w'.cell? ⟨w.heap.size + 1, 1, none⟩ = some (.int .i64 b1)) ∧ (w'.cell? ⟨w.heap.size + 1 + 1, 0, none⟩ = some (.int .i64 c0) ∧ w'.cell? ⟨w.heap.size + 1 + 1, 1, none⟩ = some (.int .i64 c1)) ∧ (w'.cell? ⟨w.heap.size + 1 + 1 + 1, 0, none⟩ = some (.int .i64 d0) ∧ w'.cell? ⟨w.heap.size + 1 + 1 + 1, 1, none⟩ = some (.int .i64 d1)) ∧ (w'.cell? ⟨bO, 0, none⟩ = some (.int .i64 OX) ∧ w'.cell? ⟨bO, 1, none⟩ = some (.int .i64 OY)) ∧ (w'.cell? ⟨bL, 0, none⟩ = some (.int .i64 AX) ∧ w'.cell? ⟨bL, 1, none⟩ = some (.int .i64 AY) ∧ w'.cell? ⟨bL, 2, none⟩ = some (.int .i64 BX) ∧ w'.cell? ⟨bL, 3, none⟩ = some (.int .i64 BY) ∧ w'.cell? ⟨bL, 4, none⟩ = some (.int .i64 CX) ∧ w'.cell? ⟨bL, 5, none⟩ = some (.int .i64 CY)) := by
          intro w' hb
          obtain ⟨hc, _⟩ := bcell hb
          have hlt : bL < WL.heap.size := by subst hWd; rw [hbL]; simp
          have h9 := KSO w' (hnL.trans (hb.mono hnL.size))
          have h8 : w'.cell? ⟨bL, 0, none⟩ = some (.int .i64 AX) ∧ w'.cell? ⟨bL, 1, none⟩ = some (.int .i64 AY) ∧ w'.cell? ⟨bL, 2, none⟩ = some (.int .i64 BX) ∧ w'.cell? ⟨bL, 3, none⟩ = some (.int .i64 BY) ∧ w'.cell? ⟨bL, 4, none⟩ = some (.int .i64 CX) ∧ w'.cell? ⟨bL, 5, none⟩ = some (.int .i64 CY) := by
            rw [hc _ _ hlt, hc _ _ hlt, hc _ _ hlt, hc _ _ hlt, hc _ _ hlt, hc _ _ hlt]
            subst hWd
            simp [go_sem, hbL]
          exact ⟨h9.1, h9.2.1, h9.2.2.1, h9.2.2.2.1, h9.2.2.2.2, h8⟩
        have hwL : Below w.heap.size w WL := hwO.trans (hnL.mono hwO.size)
        clear hWd hbL hW hbk
        have hS := KSL WL (Below.refl _ _)
        have hW : Below WL.heap.size WL WL := Below.refl _ _
        rw [HC.out]
        clear HC
        go_wp2_with fail
        refine wp_loop_rounds 4 ?_
        rw [rounds_succ]
        have hA1 := fun o1 => KSL (WL.alloc o1) (below_alloc o1 hW)
        have hA2 := fun o1 o2 => KSL ((WL.alloc o1).alloc o2) (below_alloc o2 (below_alloc o1 hW))
        have hA3 := fun o1 o2 o3 => KSL (((WL.alloc o1).alloc o2).alloc o3) (below_alloc o3 (below_alloc o2 (below_alloc o1 hW)))
        go_wp2
        clear hA1 hA2 hA3
        generalize hWd : World.alloc (World.alloc (World.alloc WL _) _) _ = WR0
        have hW : Below WL.heap.size WL WR0 := by subst hWd; exact below_alloc _ (below_alloc _ (below_alloc _ hW))
        clear hWd
        have hS := KSL WR0 hW
        rw [rounds_succ]
        have hA1 := fun o1 => KSL (WR0.alloc o1) (below_alloc o1 hW)
        have hA2 := fun o1 o2 => KSL ((WR0.alloc o1).alloc o2) (below_alloc o2 (below_alloc o1 hW))
        have hA3 := fun o1 o2 o3 => KSL (((WR0.alloc o1).alloc o2).alloc o3) (below_alloc o3 (below_alloc o2 (below_alloc o1 hW)))
        go_wp2
        clear hA1 hA2 hA3
        generalize hWd : World.alloc (World.alloc (World.alloc WR0 _) _) _ = WR1
        have hW : Below WL.heap.size WL WR1 := by subst hWd; exact below_alloc _ (below_alloc _ (below_alloc _ hW))
        clear hWd
        have hS := KSL WR1 hW
        rw [rounds_succ]
        have hA1 := fun o1 => KSL (WR1.alloc o1) (below_alloc o1 hW)
        have hA2 := fun o1 o2 => KSL ((WR1.alloc o1).alloc o2) (below_alloc o2 (below_alloc o1 hW))
        have hA3 := fun o1 o2 o3 => KSL (((WR1.alloc o1).alloc o2).alloc o3) (below_alloc o3 (below_alloc o2 (below_alloc o1 hW)))
        go_wp2
        clear hA1 hA2 hA3
        generalize hWd : World.alloc (World.alloc (World.alloc WR1 _) _) _ = WR2
        have hW : Below WL.heap.size WL WR2 := by subst hWd; exact below_alloc _ (below_alloc _ (below_alloc _ hW))
        clear hWd
        have hS := KSL WR2 hW
        rw [rounds_succ]
        go_wp2_with (first | (go_at_call 17; go_must (refine (TuR.use (by assumption) _).mono ?_; rintro e wk ⟨rfl, hbk⟩; have hW : Below WL.heap.size WL wk := below_step hbk (by repeat (with_reducible first | refine below_alloc _ ?_ | refine Below.drew ?_ | exact hW)); have hS := KSL _ hW)) | (go_at_call 16; go_must (refine (signk_any _ _).mono ?_; rintro e w1 ⟨rfl, rfl⟩)))
        go_ret
        exact ⟨ret_bool (by first | rfl | (simp; done)), hwL.trans (hW.mono hwL.size)⟩

theorem whole_any (a0 a1 b0 b1 c0 c1 d0 d1 pw : Int) (w : World) (h1 : I64 a0) (h2 : I64 a1) (h3 : I64 b0) (h4 : I64 b1) (h5 : I64 c0) (h6 : I64 c1) (h7 : I64 d0) (h8 : I64 d1) (h9 : I64 pw) :
    Calls Try.prog 5 #[.agg #[.int .i64 a0, .int .i64 a1], .agg #[.int .i64 b0, .int .i64 b1], .agg #[.int .i64 c0, .int .i64 c1], .agg #[.int .i64 d0, .int .i64 d1], .int .i64 pw] w fun e w' => e = .returned (.bool true) ∧ Below w.heap.size w w' := by
  have r1 := bentI_range a0
  have r2 := bentI_range a1
  have r3 := bentI_range b0
  have r4 := bentI_range b1
  have r5 := bentI_range c0
  have r6 := bentI_range c1
  have r7 := bentI_range d0
  have r8 := bentI_range d1
  have hk := scaleI_range pw
  exact whole_walk a0 a1 b0 b1 c0 c1 d0 d1 pw (scaleI pw) _ _ _ _ _ _ _ _ w (at_r h1 h2) (at_r h3 h4) (at_r h5 h6) (at_r h7 h8) (point_r h1 h2 hk) (point_r h3 h4 hk) (point_r h5 h6 hk) (point_r h7 h8 hk) ⟨fun V => scale_any pw V h9⟩
    ⟨fun V => turnk_walk a0 a1 b0 b1 c0 c1 _ _ _ _ _ _ V (at_r h1 h2) (at_r h3 h4) (at_r h5 h6) (by omega) (by omega) (by omega) (by omega)⟩ (by omega) (by omega) (by omega) (by omega) (by omega) (by omega)

end Go.Proofs.Ytbjjkfmdkmbcfaa
