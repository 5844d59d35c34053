import Derived.Test.YtbjjkfmdkmbcfaaKk
import Derived.Deep.QuietTactic
import Derived.BigQuiet
namespace Go.Proofs.Ytbjjkfmdkmbcfaa
open Go.RowKit
open PlRd (sgn)

attribute [local go_sem ↓] Go.wp_at_zero Go.wp_at_succ

theorem wrapI (x : Int) (h0 : -9223372036854775808 ≤ x) (h1 : x ≤ 9223372036854775807) : IntKind.i64.wrap x = x := by rw [IntKind.wrap_i64]; omega

structure ScR (c k : Int) : Prop where
  out : ∀ V, Calls Try.prog 13 #[.int .i64 c] V fun e w' => e = .returned (.int .i64 k) ∧ w' = V
theorem ScR.use {c k : Int} (h : ScR c k) (V : World) : Calls Try.prog 13 #[.int .i64 c] V fun e w' => e = .returned (.int .i64 k) ∧ w' = V := h.out V

theorem sq_bound (D : Int) (h : -8000 ≤ D ∧ D ≤ 8000) : 0 ≤ D * D ∧ D * D ≤ 64000000 := by
  have h1 := HL.sq_nonneg D
  refine ⟨h1, ?_⟩
  rcases Int.le_total 0 D with h2 | h2
  · have := HL.sq_le h2 h.2
    omega
  · have := HL.sq_le (x := -D) (y := 8000) (by omega) (by omega)
    rw [Int.neg_mul_neg] at this
    omega

set_option maxHeartbeats 16000000 in
set_option maxRecDepth 100000 in
theorem nearest_walk (a0 a1 b0 b1 c0 c1 pw k PX PY QX QY RX RY : Int) (w : World)
    (ha : AtR a0 a1 PX PY) (hb : AtR b0 b1 QX QY) (hc : AtR c0 c1 RX RY) (pa : PtR a0 a1 k PX PY) (pb : PtR b0 b1 k QX QY) (pc : PtR c0 c1 k RX RY) (hs : ScR pw k)
    (q1 : -8000 ≤ QX - PX ∧ QX - PX ≤ 8000) (q2 : -8000 ≤ QY - PY ∧ QY - PY ≤ 8000) (q3 : -8000 ≤ RX - PX ∧ RX - PX ≤ 8000) (q4 : -8000 ≤ RY - PY ∧ RY - PY ≤ 8000) :
    Calls Try.prog 7 #[.agg #[.int .i64 a0, .int .i64 a1], .agg #[.int .i64 b0, .int .i64 b1], .agg #[.int .i64 c0, .int .i64 c1], .int .i64 pw] w fun e w' => e = .returned (.bool true) ∧ Below w.heap.size w w' := by
  obtain ⟨D1, e1⟩ : ∃ D, QX - PX = D := ⟨_, rfl⟩
  obtain ⟨D2, e2⟩ : ∃ D, QY - PY = D := ⟨_, rfl⟩
  obtain ⟨D3, e3⟩ : ∃ D, RX - PX = D := ⟨_, rfl⟩
  obtain ⟨D4, e4⟩ : ∃ D, RY - PY = D := ⟨_, rfl⟩
  rw [e1] at q1
  rw [e2] at q2
  rw [e3] at q3
  rw [e4] at q4
  have s1 := sq_bound _ q1
  have s2 := sq_bound _ q2
  have s3 := sq_bound _ q3
  have s4 := sq_bound _ q4
  have HM : Hid ((sgn (D3 * D3 + D4 * D4) = 0 ∧ PX = RX ∧ PY = RY) ∨ (sgn (D3 * D3 + D4 * D4) = 1 ∧ PX ≠ RX) ∨ (sgn (D3 * D3 + D4 * D4) = 1 ∧ PX = RX ∧ PY ≠ RY)) := by
    unfold Hid sgn
    by_cases h1 : PX = RX
    · by_cases h2 : PY = RY
      · have h3 : D3 = 0 := by omega
        have h4 : D4 = 0 := by omega
        subst h3 h4
        exact .inl ⟨rfl, h1, h2⟩
      · have h4 : D4 ≠ 0 := by omega
        have h5 : 0 < D4 * D4 := by
          rcases Int.lt_or_gt_of_ne h4 with h | h
          · exact Int.mul_pos_of_neg_of_neg h h
          · exact Int.mul_pos h h
        exact .inr (.inr ⟨by rw [if_pos (by omega)], h1, h2⟩)
    · have h4 : D3 ≠ 0 := by omega
      have h5 : 0 < D3 * D3 := by
        rcases Int.lt_or_gt_of_ne h4 with h | h
        · exact Int.mul_pos_of_neg_of_neg h h
        · exact Int.mul_pos h h
      exact .inr (.inl ⟨by rw [if_pos (by omega)], h1⟩)
  have HN : Hid (distW (PX, PY) (RX, RY) - distW (PX, PY) (QX, QY) = D3 * D3 + D4 * D4 - (D1 * D1 + D2 * D2)) := by
    unfold Hid distW
    simp only [e1, e2, e3, e4]
  have HN2 : Hid (distW (PX, PY) (RX, RY) - distW (PX, PY) (PX, PY) = D3 * D3 + D4 * D4) := by
    unfold Hid distW
    simp only [e3, e4, Int.sub_self]
    omega
  obtain ⟨E1, g1⟩ : ∃ E, D1 * D1 = E := ⟨_, rfl⟩
  obtain ⟨E2, g2⟩ : ∃ E, D2 * D2 = E := ⟨_, rfl⟩
  obtain ⟨E3, g3⟩ : ∃ E, D3 * D3 = E := ⟨_, rfl⟩
  obtain ⟨E4, g4⟩ : ∃ E, D4 * D4 = E := ⟨_, rfl⟩
  rw [g1, g2, g3, g4] at HN
  rw [g3, g4] at HN2 HM
  rw [g1] at s1
  rw [g2] at s2
  rw [g3] at s3
  rw [g4] at s4
  go_enter Try.func7, Try.ntmps7
  go_upto_region 1 with fail
  generalize hWd : World.alloc (World.alloc (World.alloc w _) _) _ = W
  have hWs : W.heap.size = w.heap.size + 3 := by subst hWd; simp
  have hw : Below w.heap.size w W := by
    subst hWd
    exact ((((Below.refl _ w).alloc (by simp <;> omega) _).alloc (by simp <;> omega) _).alloc (by simp <;> omega) _)
  have KS : ∀ w', Below W.heap.size W w' → (w'.cell? ⟨w.heap.size, 0, none⟩ = some (.int .i64 a0) ∧ w'.cell? ⟨w.heap.size, 1, none⟩ = some (.int .i64 a1)) ∧ (w'.cell? ⟨w.heap.size + 1, 0, none⟩ = some (.int .i64 b0) ∧ w'.cell? ⟨w.heap.size + 1, 1, none⟩ = some (.int .i64 b1)) ∧ (w'.cell? ⟨w.heap.size + 1 + 1, 0, none⟩ = some (.int .i64 c0) ∧ w'.cell? ⟨w.heap.size + 1 + 1, 1, none⟩ = some (.int .i64 c1)) := by
    intro w' hb
    obtain ⟨hc, _⟩ := bcell hb
    refine ⟨⟨?_, ?_⟩, ⟨?_, ?_⟩, ⟨?_, ?_⟩⟩
    all_goals (rw [hc _ _ (by omega)]; subst hWd; simp [go_sem])
  clear hWd hWs
  have hS := KS W (Below.refl _ _)
  have hW : Below W.heap.size W W := Below.refl _ _
  go_upto_region 4 with (first | (go_at_call 9; go_must (refine (known_any _).mono ?_; rintro e wk ⟨rfl, hbk⟩; have hW := below_step hbk hW; have hS := KS _ hW)) | (go_at_call 13; go_must (refine (ScR.use (by assumption) _).mono ?_; rintro e w1 ⟨rfl, rfl⟩)) | (go_at_call 15; go_must (refine (AtR.use (by assumption) _).mono ?_; rintro e wk ⟨rfl, hbk⟩; have hW := below_step hbk hW)))
  obtain ⟨bP, hbP⟩ : ∃ z, z = wk.heap.size := ⟨_, rfl⟩
  rw [← hbP]
  generalize hWd : World.alloc wk _ = WP
  have hnP : Below W.heap.size W WP := by subst hWd; exact below_alloc _ hW
  have KSP : ∀ w', Below WP.heap.size WP w' → (w'.cell? ⟨w.heap.size, 0, none⟩ = some (.int .i64 a0) ∧ w'.cell? ⟨w.heap.size, 1, none⟩ = some (.int .i64 a1)) ∧ (w'.cell? ⟨w.heap.size + 1, 0, none⟩ = some (.int .i64 b0) ∧ w'.cell? ⟨w.heap.size + 1, 1, none⟩ = some (.int .i64 b1)) ∧ (w'.cell? ⟨w.heap.size + 1 + 1, 0, none⟩ = some (.int .i64 c0) ∧ w'.cell? ⟨w.heap.size + 1 + 1, 1, none⟩ = some (.int .i64 c1)) ∧ (w'.cell? ⟨bP, 0, none⟩ = some (.int .i64 PX) ∧ w'.cell? ⟨bP, 1, none⟩ = some (.int .i64 PY)) := by
    intro w' hb
    obtain ⟨hc, _⟩ := bcell hb
    have hlt : bP < WP.heap.size := by subst hWd; simp; omega
    have h9 := KS w' (hnP.trans (hb.mono hnP.size))
    have h8 : w'.cell? ⟨bP, 0, none⟩ = some (.int .i64 PX) ∧ w'.cell? ⟨bP, 1, none⟩ = some (.int .i64 PY) := by
      rw [hc _ _ hlt, hc _ _ hlt]
      subst hWd
      simp [go_sem, hbP]
    exact ⟨h9.1, h9.2.1, h9.2.2, h8⟩
  have hwP : Below w.heap.size w WP := hw.trans (hnP.mono hw.size)
  clear hWd hbP hW hbk
  clear wk
  have hS := KSP WP (Below.refl _ _)
  have hW : Below WP.heap.size WP WP := Below.refl _ _
  go_upto_region 5 with (first | (go_at_call 15; go_must (refine (AtR.use (by assumption) _).mono ?_; rintro e wk ⟨rfl, hbk⟩; have hW := below_step hbk hW)))
  obtain ⟨bQ, hbQ⟩ : ∃ z, z = wk.heap.size := ⟨_, rfl⟩
  rw [← hbQ]
  generalize hWd : World.alloc wk _ = WQ
  have hnQ : Below WP.heap.size WP WQ := by subst hWd; exact below_alloc _ hW
  have KSQ : ∀ w', Below WQ.heap.size WQ w' → (w'.cell? ⟨w.heap.size, 0, none⟩ = some (.int .i64 a0) ∧ w'.cell? ⟨w.heap.size, 1, none⟩ = some (.int .i64 a1)) ∧ (w'.cell? ⟨w.heap.size + 1, 0, none⟩ = some (.int .i64 b0) ∧ w'.cell? ⟨w.heap.size + 1, 1, none⟩ = some (.int .i64 b1)) ∧ (w'.cell? ⟨w.heap.size + 1 + 1, 0, none⟩ = some (.int .i64 c0) ∧ w'.cell? ⟨w.heap.size + 1 + 1, 1, none⟩ = some (.int .i64 c1)) ∧ (w'.cell? ⟨bP, 0, none⟩ = some (.int .i64 PX) ∧ w'.cell? ⟨bP, 1, none⟩ = some (.int .i64 PY)) ∧ (w'.cell? ⟨bQ, 0, none⟩ = some (.int .i64 QX) ∧ w'.cell? ⟨bQ, 1, none⟩ = some (.int .i64 QY)) := by
    intro w' hb
    obtain ⟨hc, _⟩ := bcell hb
    have hlt : bQ < WQ.heap.size := by subst hWd; simp; omega
    have h9 := KSP w' (hnQ.trans (hb.mono hnQ.size))
    have h8 : w'.cell? ⟨bQ, 0, none⟩ = some (.int .i64 QX) ∧ w'.cell? ⟨bQ, 1, none⟩ = some (.int .i64 QY) := by
      rw [hc _ _ hlt, hc _ _ hlt]
      subst hWd
      simp [go_sem, hbQ]
    exact ⟨h9.1, h9.2.1, h9.2.2.1, h9.2.2.2, h8⟩
  have hwQ : Below w.heap.size w WQ := hwP.trans (hnQ.mono hwP.size)
  clear hWd hbQ hW hbk
  clear wk
  have hS := KSQ WQ (Below.refl _ _)
  have hW : Below WQ.heap.size WQ WQ := Below.refl _ _
  go_upto_region 6 with (first | (go_at_call 15; go_must (refine (AtR.use (by assumption) _).mono ?_; rintro e wk ⟨rfl, hbk⟩; have hW := below_step hbk hW)))
  obtain ⟨bR, hbR⟩ : ∃ z, z = wk.heap.size := ⟨_, rfl⟩
  rw [← hbR]
  generalize hWd : World.alloc wk _ = WR
  have hnR : Below WQ.heap.size WQ WR := by subst hWd; exact below_alloc _ hW
  have KSR : ∀ w', Below WR.heap.size WR w' → (w'.cell? ⟨w.heap.size, 0, none⟩ = some (.int .i64 a0) ∧ w'.cell? ⟨w.heap.size, 1, none⟩ = some (.int .i64 a1)) ∧ (w'.cell? ⟨w.heap.size + 1, 0, none⟩ = some (.int .i64 b0) ∧ w'.cell? ⟨w.heap.size + 1, 1, none⟩ = some (.int .i64 b1)) ∧ (w'.cell? ⟨w.heap.size + 1 + 1, 0, none⟩ = some (.int .i64 c0) ∧ w'.cell? ⟨w.heap.size + 1 + 1, 1, none⟩ = some (.int .i64 c1)) ∧ (w'.cell? ⟨bP, 0, none⟩ = some (.int .i64 PX) ∧ w'.cell? ⟨bP, 1, none⟩ = some (.int .i64 PY)) ∧ (w'.cell? ⟨bQ, 0, none⟩ = some (.int .i64 QX) ∧ w'.cell? ⟨bQ, 1, none⟩ = some (.int .i64 QY)) ∧ (w'.cell? ⟨bR, 0, none⟩ = some (.int .i64 RX) ∧ w'.cell? ⟨bR, 1, none⟩ = some (.int .i64 RY)) := by
    intro w' hb
    obtain ⟨hc, _⟩ := bcell hb
    have hlt : bR < WR.heap.size := by subst hWd; simp; omega
    have h9 := KSQ w' (hnR.trans (hb.mono hnR.size))
    have h8 : w'.cell? ⟨bR, 0, none⟩ = some (.int .i64 RX) ∧ w'.cell? ⟨bR, 1, none⟩ = some (.int .i64 RY) := by
      rw [hc _ _ hlt, hc _ _ hlt]
      subst hWd
      simp [go_sem, hbR]
    exact ⟨h9.1, h9.2.1, h9.2.2.1, h9.2.2.2.1, h9.2.2.2.2, h8⟩
  have hwR : Below w.heap.size w WR := hwQ.trans (hnR.mono hwQ.size)
  clear hWd hbR hW hbk
  clear wk
  have hS := KSR WR (Below.refl _ _)
  have hW : Below WR.heap.size WR WR := Below.refl _ _
  have f1 : -9223372036854775808 ≤ D1 ∧ D1 ≤ 9223372036854775807 := by omega
  have f2 : -9223372036854775808 ≤ D2 ∧ D2 ≤ 9223372036854775807 := by omega
  have f3 : -9223372036854775808 ≤ D3 ∧ D3 ≤ 9223372036854775807 := by omega
  have f4 : -9223372036854775808 ≤ D4 ∧ D4 ≤ 9223372036854775807 := by omega
  have f5 : -9223372036854775808 ≤ E1 ∧ E1 ≤ 9223372036854775807 := by omega
  have f6 : -9223372036854775808 ≤ E2 ∧ E2 ≤ 9223372036854775807 := by omega
  have f7 : -9223372036854775808 ≤ E3 ∧ E3 ≤ 9223372036854775807 := by omega
  have f8 : -9223372036854775808 ≤ E4 ∧ E4 ≤ 9223372036854775807 := by omega
  have f9 : -9223372036854775808 ≤ E1 + E2 ∧ E1 + E2 ≤ 9223372036854775807 := by omega
  have f10 : -9223372036854775808 ≤ E3 + E4 ∧ E3 + E4 ≤ 9223372036854775807 := by omega
  have f11 : -9223372036854775808 ≤ E3 + E4 - (E1 + E2) ∧ E3 + E4 - (E1 + E2) ≤ 9223372036854775807 := by omega
  have w1 := wrapI _ f1.1 f1.2
  have w2 := wrapI _ f2.1 f2.2
  have w3 := wrapI _ f3.1 f3.2
  have w4 := wrapI _ f4.1 f4.2
  have w5 := wrapI _ f5.1 f5.2
  have w6 := wrapI _ f6.1 f6.2
  have w7 := wrapI _ f7.1 f7.2
  have w8 := wrapI _ f8.1 f8.2
  have w9 := wrapI _ f9.1 f9.2
  have w10 := wrapI _ f10.1 f10.2
  have w11 := wrapI _ f11.1 f11.2
  clear f1 f2 f3 f4 f5 f6 f7 f8 f9 f10 f11 s1 s2 s3 s4 q1 q2 q3 q4 KS KSP KSQ ha hb hc hs
  go_upto_region 8 with fail
  go_region_held3 (fun w' : World => (w'.cell? ⟨w.heap.size, 0, none⟩ = some (.int .i64 a0) ∧ w'.cell? ⟨w.heap.size, 1, none⟩ = some (.int .i64 a1)) ∧ (w'.cell? ⟨w.heap.size + 1, 0, none⟩ = some (.int .i64 b0) ∧ w'.cell? ⟨w.heap.size + 1, 1, none⟩ = some (.int .i64 b1)) ∧ (w'.cell? ⟨w.heap.size + 1 + 1, 0, none⟩ = some (.int .i64 c0) ∧ w'.cell? ⟨w.heap.size + 1 + 1, 1, none⟩ = some (.int .i64 c1)) ∧ (w'.cell? ⟨bP, 0, none⟩ = some (.int .i64 PX) ∧ w'.cell? ⟨bP, 1, none⟩ = some (.int .i64 PY)) ∧ (w'.cell? ⟨bQ, 0, none⟩ = some (.int .i64 QX) ∧ w'.cell? ⟨bQ, 1, none⟩ = some (.int .i64 QY)) ∧ (w'.cell? ⟨bR, 0, none⟩ = some (.int .i64 RX) ∧ w'.cell? ⟨bR, 1, none⟩ = some (.int .i64 RY))) (exact KSR _ (by repeat (with_reducible first | refine below_alloc _ ?_ | refine Below.drew ?_ | exact hW))) (first | (go_at_call 14; go_must (refine (PtR.use (by assumption) _).mono ?_; rintro e wk ⟨u1, v1, rfl, hu1, hv1, hbk⟩; have hW : Below WR.heap.size WR wk := below_step hbk (by repeat (with_reducible first | refine below_alloc _ ?_ | refine Below.drew ?_ | exact hW)))) | (go_at_call 21; go_must (refine (nearer_bt (by assumption) (by assumption) (by assumption) (by assumption) (by assumption) (by assumption) _).mono ?_; rintro e wk ⟨hbk, rfl⟩; have hW : Below WR.heap.size WR wk := below_step hbk (by repeat (with_reducible first | refine below_alloc _ ?_ | refine Below.drew ?_ | exact hW)))))
  all_goals
    clear e1 e2 e3 e4 g1 g2 g3 g4 w1 w2 w3 w4 w5 w6 w7 w8 w9 w10
    have hS := KSR _ hW
    have hN := HN.out
    go_upto_region 9 with fail
    go_region_held3 (fun w' : World => (w'.cell? ⟨w.heap.size, 0, none⟩ = some (.int .i64 a0) ∧ w'.cell? ⟨w.heap.size, 1, none⟩ = some (.int .i64 a1)) ∧ (w'.cell? ⟨w.heap.size + 1, 0, none⟩ = some (.int .i64 b0) ∧ w'.cell? ⟨w.heap.size + 1, 1, none⟩ = some (.int .i64 b1)) ∧ (w'.cell? ⟨w.heap.size + 1 + 1, 0, none⟩ = some (.int .i64 c0) ∧ w'.cell? ⟨w.heap.size + 1 + 1, 1, none⟩ = some (.int .i64 c1)) ∧ (w'.cell? ⟨bP, 0, none⟩ = some (.int .i64 PX) ∧ w'.cell? ⟨bP, 1, none⟩ = some (.int .i64 PY)) ∧ (w'.cell? ⟨bQ, 0, none⟩ = some (.int .i64 QX) ∧ w'.cell? ⟨bQ, 1, none⟩ = some (.int .i64 QY)) ∧ (w'.cell? ⟨bR, 0, none⟩ = some (.int .i64 RX) ∧ w'.cell? ⟨bR, 1, none⟩ = some (.int .i64 RY))) (exact KSR _ (by repeat (with_reducible first | refine below_alloc _ ?_ | refine Below.drew ?_ | exact hW))) (first | (go_at_call 14; go_must (refine (PtR.use (by assumption) _).mono ?_; rintro e wk ⟨u1, v1, rfl, hu1, hv1, hbk⟩; have hW : Below WR.heap.size WR wk := below_step hbk (by repeat (with_reducible first | refine below_alloc _ ?_ | refine Below.drew ?_ | exact hW)))) | (go_at_call 21; go_must (refine (nearer_bt (by assumption) (by assumption) (by assumption) (by assumption) (by assumption) (by assumption) _).mono ?_; rintro e wk ⟨hbk, rfl⟩; have hW : Below WR.heap.size WR wk := below_step hbk (by repeat (with_reducible first | refine below_alloc _ ?_ | refine Below.drew ?_ | exact hW)))))
    all_goals
      have hN2 := HN2.out
      have hS := KSR _ hW
      have hbF : Below w.heap.size w wk := hwR.trans (hW.mono hwR.size)
      go_upto_region 10 with fail
      rw [hN2]
      clear hN2 hN HN HN2
      have w12 := signk_any (E3 + E4 - (E1 + E2))
      have w13 : IntKind.i64.wrap (E3 + E4 - (E1 + E2)) = E3 + E4 - (E1 + E2) := w11
      obtain ⟨z, hz⟩ : ∃ z, z = sgn (E3 + E4 - (E1 + E2)) := ⟨_, rfl⟩
      rw [← hz] at w12 ⊢
      clear hz
      rcases HM.out with ⟨h, hx, hy⟩ | ⟨h, hx⟩ | ⟨h, hx, hy⟩
      · rw [h]
        subst hx hy
        clear h HM
        go_wp2_with (go_at_call 16; go_must (refine (w12 _).mono ?_; rintro e w1 ⟨rfl, rfl⟩))
        go_ret
        exact ⟨rfl, hbF⟩
      · rw [h]
        have hbx : (PX == RX) = false := beq_eq_false_iff_ne.2 hx
        clear h HM
        go_wp2_with (go_at_call 16; go_must (refine (w12 _).mono ?_; rintro e w1 ⟨rfl, rfl⟩))
        go_ret
        exact ⟨rfl, hbF⟩
      · rw [h]
        subst hx
        have hby : (PY == RY) = false := beq_eq_false_iff_ne.2 hy
        clear h HM
        go_wp2_with (go_at_call 16; go_must (refine (w12 _).mono ?_; rintro e w1 ⟨rfl, rfl⟩))
        go_ret
        exact ⟨rfl, hbF⟩

theorem nearest_any (a0 a1 b0 b1 c0 c1 pw : Int) (w : World) (h1 : I64 a0) (h2 : I64 a1) (h3 : I64 b0) (h4 : I64 b1) (h5 : I64 c0) (h6 : I64 c1) (h7 : I64 pw) :
    Calls Try.prog 7 #[.agg #[.int .i64 a0, .int .i64 a1], .agg #[.int .i64 b0, .int .i64 b1], .agg #[.int .i64 c0, .int .i64 c1], .int .i64 pw] w fun e w' => e = .returned (.bool true) ∧ Below w.heap.size w w' := by
  have r1 := bentI_range a0
  have r2 := bentI_range a1
  have r3 := bentI_range b0
  have r4 := bentI_range b1
  have r5 := bentI_range c0
  have r6 := bentI_range c1
  have hk := scaleI_range pw
  exact nearest_walk a0 a1 b0 b1 c0 c1 pw (scaleI pw) _ _ _ _ _ _ w (at_r h1 h2) (at_r h3 h4) (at_r h5 h6) (point_r h1 h2 hk) (point_r h3 h4 hk) (point_r h5 h6 hk) ⟨fun V => scale_any pw V h7⟩ (by omega) (by omega) (by omega) (by omega)

end Go.Proofs.Ytbjjkfmdkmbcfaa
