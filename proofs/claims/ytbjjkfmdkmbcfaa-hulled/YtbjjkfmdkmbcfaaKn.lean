import Derived.Test.YtbjjkfmdkmbcfaaKm
namespace Go.Proofs.Ytbjjkfmdkmbcfaa
open Go.RowKit
open PlRd (sgn)

attribute [local go_sem ↓] Go.wp_at_zero Go.wp_at_succ

def circW (A B C D : Int × Int) : Int := circI (A.1 - D.1) (A.2 - D.2) (B.1 - D.1) (B.2 - D.2) (C.1 - D.1) (C.2 - D.2)

theorem circ_units (ax ay bx b' cx cy dx dy U : Int) : circI (ax * U - dx * U) (ay * U - dy * U) (bx * U - dx * U) (b' * U - dy * U) (cx * U - dx * U) (cy * U - dy * U) = circI (ax - dx) (ay - dy) (bx - dx) (b' - dy) (cx - dx) (cy - dy) * (U * U * (U * U)) := by
  unfold circI sqI crI
  grind

theorem circle_bt {ax ay bx by' cx cy dx dy : Nat} {AX AY BX BY CX CY DX DY p : Int} (h1 : Bt ax AX p) (h2 : Bt ay AY p) (h3 : Bt bx BX p) (h4 : Bt by' BY p) (h5 : Bt cx CX p) (h6 : Bt cy CY p) (h7 : Bt dx DX p) (h8 : Bt dy DY p) (V : World) :
    Calls Try.prog 11 #[.agg #[.int .u64 ax, .int .u64 ay], .agg #[.int .u64 bx, .int .u64 by'], .agg #[.int .u64 cx, .int .u64 cy], .agg #[.int .u64 dx, .int .u64 dy]] V fun e w' => Below V.heap.size V w' ∧ e = .returned (.tuple #[.int .i64 (sgn (circW (AX, AY) (BX, BY) (CX, CY) (DX, DY))), .int .i64 0]) := by
  have h := circle_ok ax ay bx by' cx cy dx dy V (l64_4 ⟨h1.lt, h2.lt⟩ ⟨h3.lt, h4.lt⟩ ⟨h5.lt, h6.lt⟩ ⟨h7.lt, h8.lt⟩) (ok4 h1.may h2.may h3.may h4.may h5.may h6.may h7.may h8.may)
  have e : sgn (circI (valB ax - valB dx) (valB ay - valB dy) (valB bx - valB dx) (valB by' - valB dy) (valB cx - valB dx) (valB cy - valB dy)) = sgn (circW (AX, AY) (BX, BY) (CX, CY) (DX, DY)) := by
    unfold circW
    simp only [h1.vb, h2.vb, h3.vb, h4.vb, h5.vb, h6.vb, h7.vb, h8.vb]
    have hu := Int.mul_pos (UQ_pos p) (UQ_pos p)
    rw [circ_units, sgn_scale _ _ (Int.mul_pos hu hu)]
  rwa [e] at h

theorem pr_bound {x y m n : Int} (hx : -m ≤ x ∧ x ≤ m) (hy : -n ≤ y ∧ y ≤ n) : -(m * n) ≤ x * y ∧ x * y ≤ m * n := by
  have key : ∀ {u v : Int}, -m ≤ u → u ≤ m → 0 ≤ v → v ≤ n → -(m * n) ≤ u * v ∧ u * v ≤ m * n := by
    intro u v h1 h2 h3 h4
    have hm : 0 ≤ m := by omega
    have a1 : u * v ≤ m * v := Int.mul_le_mul_of_nonneg_right h2 h3
    have a2 : m * v ≤ m * n := Int.mul_le_mul_of_nonneg_left h4 hm
    have a3 : (-m) * v ≤ u * v := Int.mul_le_mul_of_nonneg_right h1 h3
    rw [Int.neg_mul] at a3
    omega
  rcases Int.le_total 0 y with h | h
  · exact key hx.1 hx.2 h hy.2
  · have h9 := key (u := x) (v := -y) hx.1 hx.2 (by omega) (by omega)
    rw [Int.mul_neg] at h9
    omega

def F64 (x : Int) : Prop := -9223372036854775808 ≤ x ∧ x ≤ 9223372036854775807
theorem F64.wrap {x : Int} (h : F64 x) : IntKind.i64.wrap x = x := wrapI x h.1 h.2

set_option maxHeartbeats 8000000 in
set_option maxRecDepth 100000 in
theorem turnk_walk (a0 a1 b0 b1 c0 c1 PX PY QX QY RX RY : Int) (w : World) (ha : AtR a0 a1 PX PY) (hb : AtR b0 b1 QX QY) (hc : AtR c0 c1 RX RY)
    (q1 : -8000 ≤ QX - PX ∧ QX - PX ≤ 8000) (q2 : -8000 ≤ QY - PY ∧ QY - PY ≤ 8000) (q3 : -8000 ≤ RX - PX ∧ RX - PX ≤ 8000) (q4 : -8000 ≤ RY - PY ∧ RY - PY ≤ 8000) :
    Calls Try.prog 17 #[.agg #[.int .i64 a0, .int .i64 a1], .agg #[.int .i64 b0, .int .i64 b1], .agg #[.int .i64 c0, .int .i64 c1]] w fun e w' => e = .returned (.int .i64 (turnW (PX, PY) (QX, QY) (RX, RY))) ∧ Below w.heap.size w w' := by
  obtain ⟨D1, e1⟩ : ∃ D, QX - PX = D := ⟨_, rfl⟩
  obtain ⟨D2, e2⟩ : ∃ D, QY - PY = D := ⟨_, rfl⟩
  obtain ⟨D3, e3⟩ : ∃ D, RX - PX = D := ⟨_, rfl⟩
  obtain ⟨D4, e4⟩ : ∃ D, RY - PY = D := ⟨_, rfl⟩
  rw [e1] at q1
  rw [e2] at q2
  rw [e3] at q3
  rw [e4] at q4
  have s1 := pr_bound q1 q4
  have s2 := pr_bound q2 q3
  have HT : Hid (turnW (PX, PY) (QX, QY) (RX, RY) = D1 * D4 - D2 * D3) := by
    unfold Hid turnW
    simp only [e1, e2, e3, e4]
  rw [HT.out]
  obtain ⟨E1, g1⟩ : ∃ E, D1 * D4 = E := ⟨_, rfl⟩
  obtain ⟨E2, g2⟩ : ∃ E, D2 * D3 = E := ⟨_, rfl⟩
  rw [g1] at s1 ⊢
  rw [g2] at s2 ⊢
  have f1 : F64 D1 := ⟨by omega, by omega⟩
  have f2 : F64 D2 := ⟨by omega, by omega⟩
  have f3 : F64 D3 := ⟨by omega, by omega⟩
  have f4 : F64 D4 := ⟨by omega, by omega⟩
  have f5 : F64 E1 := ⟨by omega, by omega⟩
  have f6 : F64 E2 := ⟨by omega, by omega⟩
  have f7 : F64 (E1 - E2) := ⟨by omega, by omega⟩
  have w1 := f1.wrap
  have w2 := f2.wrap
  have w3 := f3.wrap
  have w4 := f4.wrap
  have w5 := f5.wrap
  have w6 := f6.wrap
  have w7 := f7.wrap
  clear f1 f2 f3 f4 f5 f6 f7 s1 s2 q1 q2 q3 q4 HT
  go_enter Try.func17, Try.ntmps17
  go_upto_region 1 with fail
  generalize hWd : World.alloc (World.alloc (World.alloc w _) _) _ = W
  have hWs : W.heap.size = w.heap.size + 3 := by subst hWd; simp
  have hw : Below w.heap.size w W := by
    subst hWd
    exact ((((Below.refl _ w).alloc (by simp) _).alloc (by simp) _).alloc (by simp; (try omega)) _)
  have KS : ∀ w', Below W.heap.size W w' → (w'.cell? ⟨w.heap.size, 0, none⟩ = some (.int .i64 a0) ∧ w'.cell? ⟨w.heap.size, 1, none⟩ = some (.int .i64 a1)) ∧ (w'.cell? ⟨w.heap.size + 1, 0, none⟩ = some (.int .i64 b0) ∧ w'.cell? ⟨w.heap.size + 1, 1, none⟩ = some (.int .i64 b1)) ∧ (w'.cell? ⟨w.heap.size + 1 + 1, 0, none⟩ = some (.int .i64 c0) ∧ w'.cell? ⟨w.heap.size + 1 + 1, 1, none⟩ = some (.int .i64 c1)) := by
    intro w' hb
    obtain ⟨hc, _⟩ := bcell hb
    refine ⟨⟨?_, ?_⟩, ⟨?_, ?_⟩, ⟨?_, ?_⟩⟩
    all_goals (rw [hc _ _ (by rw [hWs]; exact Nat.lt_of_lt_of_le (Nat.lt_succ_self _) (by simp))]; subst hWd; simp [go_sem])
  clear hWd hWs
  have hS := KS W (Below.refl _ _)
  have hW : Below W.heap.size W W := Below.refl _ _
  go_upto_region 2 with (first | (go_at_call 9; go_must (refine (known_any _).mono ?_; rintro e wk ⟨rfl, hbk⟩; have hW := below_step hbk hW; have hS := KS _ hW)) | (go_at_call 13; go_must (refine (ScR.use (by assumption) _).mono ?_; rintro e w1 ⟨rfl, rfl⟩)) | (go_at_call 15; go_must (refine (AtR.use (by assumption) _).mono ?_; rintro e wk ⟨rfl, hbk⟩; have hW := below_step hbk hW)))
  obtain ⟨bP, hbP⟩ : ∃ z, z = wk.heap.size := ⟨_, rfl⟩
  rw [← hbP]
  generalize hWd : World.alloc wk _ = WP
  have hnP : Below W.heap.size W WP := by subst hWd; exact below_alloc _ hW
  have KSP : ∀ w', Below WP.heap.size WP w' → (w'.cell? ⟨w.heap.size, 0, none⟩ = some (.int .i64 a0) ∧ w'.cell? ⟨w.heap.size, 1, none⟩ = some (.int .i64 a1)) ∧ (w'.cell? ⟨w.heap.size + 1, 0, none⟩ = some (.int .i64 b0) ∧ w'.cell? ⟨w.heap.size + 1, 1, none⟩ = some (.int .i64 b1)) ∧ (w'.cell? ⟨w.heap.size + 1 + 1, 0, none⟩ = some (.int .i64 c0) ∧ w'.cell? ⟨w.heap.size + 1 + 1, 1, none⟩ = some (.int .i64 c1)) ∧ (w'.cell? ⟨bP, 0, none⟩ = some (.int .i64 PX) ∧ w'.cell? ⟨bP, 1, none⟩ = some (.int .i64 PY)) := by
    intro w' hb
    obtain ⟨hc, _⟩ := bcell hb
    have hlt : bP < WP.heap.size := by subst hWd; simp; omega
    have h9 := KS w' (hnP.trans (hb.mono hnP.size))
    have h8 : w'.cell? ⟨bP, 0, none⟩ = some (.int .i64 PX) ∧ w'.cell? ⟨bP, 1, none⟩ = some (.int .i64 PY) := by
      rw [hc _ _ hlt, hc _ _ hlt]
      subst hWd
      simp [go_sem, hbP]
    exact ⟨h9.1, h9.2.1, h9.2.2, h8⟩
  have hwP : Below w.heap.size w WP := hw.trans (hnP.mono hw.size)
  clear hWd hbP hW hbk
  clear wk
  have hS := KSP WP (Below.refl _ _)
  have hW : Below WP.heap.size WP WP := Below.refl _ _
  go_upto_region 3 with (first | (go_at_call 15; go_must (refine (AtR.use (by assumption) _).mono ?_; rintro e wk ⟨rfl, hbk⟩; have hW := below_step hbk hW)))
  obtain ⟨bQ, hbQ⟩ : ∃ z, z = wk.heap.size := ⟨_, rfl⟩
  rw [← hbQ]
  generalize hWd : World.alloc wk _ = WQ
  have hnQ : Below WP.heap.size WP WQ := by subst hWd; exact below_alloc _ hW
  have KSQ : ∀ w', Below WQ.heap.size WQ w' → (w'.cell? ⟨w.heap.size, 0, none⟩ = some (.int .i64 a0) ∧ w'.cell? ⟨w.heap.size, 1, none⟩ = some (.int .i64 a1)) ∧ (w'.cell? ⟨w.heap.size + 1, 0, none⟩ = some (.int .i64 b0) ∧ w'.cell? ⟨w.heap.size + 1, 1, none⟩ = some (.int .i64 b1)) ∧ (w'.cell? ⟨w.heap.size + 1 + 1, 0, none⟩ = some (.int .i64 c0) ∧ w'.cell? ⟨w.heap.size + 1 + 1, 1, none⟩ = some (.int .i64 c1)) ∧ (w'.cell? ⟨bP, 0, none⟩ = some (.int .i64 PX) ∧ w'.cell? ⟨bP, 1, none⟩ = some (.int .i64 PY)) ∧ (w'.cell? ⟨bQ, 0, none⟩ = some (.int .i64 QX) ∧ w'.cell? ⟨bQ, 1, none⟩ = some (.int .i64 QY)) := by
    intro w' hb
    obtain ⟨hc, _⟩ := bcell hb
    have hlt : bQ < WQ.heap.size := by subst hWd; simp; omega
    have h9 := KSP w' (hnQ.trans (hb.mono hnQ.size))
    have h8 : w'.cell? ⟨bQ, 0, none⟩ = some (.int .i64 QX) ∧ w'.cell? ⟨bQ, 1, none⟩ = some (.int .i64 QY) := by
      rw [hc _ _ hlt, hc _ _ hlt]
      subst hWd
      simp [go_sem, hbQ]
    exact ⟨h9.1, h9.2.1, h9.2.2.1, h9.2.2.2, h8⟩
  have hwQ : Below w.heap.size w WQ := hwP.trans (hnQ.mono hwP.size)
  clear hWd hbQ hW hbk
  clear wk
  have hS := KSQ WQ (Below.refl _ _)
  have hW : Below WQ.heap.size WQ WQ := Below.refl _ _
  go_upto_region 4 with (first | (go_at_call 15; go_must (refine (AtR.use (by assumption) _).mono ?_; rintro e wk ⟨rfl, hbk⟩; have hW := below_step hbk hW)))
  obtain ⟨bR, hbR⟩ : ∃ z, z = wk.heap.size := ⟨_, rfl⟩
  rw [← hbR]
  generalize hWd : World.alloc wk _ = WR
  have hnR : Below WQ.heap.size WQ WR := by subst hWd; exact below_alloc _ hW
  have KSR : ∀ w', Below WR.heap.size WR w' → (w'.cell? ⟨w.heap.size, 0, none⟩ = some (.int .i64 a0) ∧ w'.cell? ⟨w.heap.size, 1, none⟩ = some (.int .i64 a1)) ∧ (w'.cell? ⟨w.heap.size + 1, 0, none⟩ = some (.int .i64 b0) ∧ w'.cell? ⟨w.heap.size + 1, 1, none⟩ = some (.int .i64 b1)) ∧ (w'.cell? ⟨w.heap.size + 1 + 1, 0, none⟩ = some (.int .i64 c0) ∧ w'.cell? ⟨w.heap.size + 1 + 1, 1, none⟩ = some (.int .i64 c1)) ∧ (w'.cell? ⟨bP, 0, none⟩ = some (.int .i64 PX) ∧ w'.cell? ⟨bP, 1, none⟩ = some (.int .i64 PY)) ∧ (w'.cell? ⟨bQ, 0, none⟩ = some (.int .i64 QX) ∧ w'.cell? ⟨bQ, 1, none⟩ = some (.int .i64 QY)) ∧ (w'.cell? ⟨bR, 0, none⟩ = some (.int .i64 RX) ∧ w'.cell? ⟨bR, 1, none⟩ = some (.int .i64 RY)) := by
    intro w' hb
    obtain ⟨hc, _⟩ := bcell hb
    have hlt : bR < WR.heap.size := by subst hWd; simp; omega
    have h9 := KSQ w' (hnR.trans (hb.mono hnR.size))
    have h8 : w'.cell? ⟨bR, 0, none⟩ = some (.int .i64 RX) ∧ w'.cell? ⟨bR, 1, none⟩ = some (.int .i64 RY) := by
      rw [hc _ _ hlt, hc _ _ hlt]
      subst hWd
      simp [go_sem, hbR]
    exact ⟨h9.1, h9.2.1, h9.2.2.1, h9.2.2.2.1, h9.2.2.2.2, h8⟩
  have hwR : Below w.heap.size w WR := hwQ.trans (hnR.mono hwQ.size)
  clear hWd hbR hW hbk
  clear wk
  have hS := KSR WR (Below.refl _ _)
  have hW : Below WR.heap.size WR WR := Below.refl _ _
  go_wp2
  go_ret
  exact ⟨rfl, hwR⟩

end Go.Proofs.Ytbjjkfmdkmbcfaa
