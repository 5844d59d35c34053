import Derived.Test.YtbjjkfmdkmbcfaaKn
import Derived.Deep.DeepCutAuto
namespace Go.Proofs.Ytbjjkfmdkmbcfaa
open Go.RowKit
open PlRd (sgn)

attribute [local go_sem ↓] Go.wp_at_zero Go.wp_at_succ

structure PkR (c n r : Int) : Prop where
  out : ∀ V, Calls Try.prog 18 #[.int .i64 c, .int .i64 n] V fun e w' => e = .returned (.int .i64 r) ∧ w' = V
theorem PkR.use {c n r : Int} (h : PkR c n r) (V : World) : Calls Try.prog 18 #[.int .i64 c, .int .i64 n] V fun e w' => e = .returned (.int .i64 r) ∧ w' = V := h.out V

/-- What bits answers. -/
structure BcR (n p b : Int) : Prop where
  out : ∀ V, Calls Try.prog 20 #[.int .i64 n, .int .i64 p] V fun e w' => e = .returned (.int .u64 b) ∧ w' = V
theorem BcR.use {n p b : Int} (h : BcR n p b) (V : World) : Calls Try.prog 20 #[.int .i64 n, .int .i64 p] V fun e w' => e = .returned (.int .u64 b) ∧ w' = V := h.out V

/-- A hair. -/
def Hr (c s p : Int) : Prop := ∃ b : Nat, (b : Int) = c ∧ Bt b s p ∧ (s = 1 ∨ s = -1)

theorem orient_hair {ax bx cx : Nat} {PX QX RX c s p : Int} (h1 : Bt ax PX 20) (h3 : Bt bx QX 20) (h5 : Bt cx RX 20) (h6 : Hr c s p) (hlt : PX < QX) (V : World) :
    Calls Try.prog 10 #[.agg #[.int .u64 ax, .int .u64 0], .agg #[.int .u64 bx, .int .u64 0], .agg #[.int .u64 cx, .int .u64 c]] V fun e w' => Below V.heap.size V w' ∧ e = .returned (.tuple #[.int .i64 s, .int .i64 0]) := by
  obtain ⟨b, rfl, hb, hs⟩ := h6
  have z := bt_zero 20
  have h := orient_ok ax 0 bx 0 cx b V (l64_3 ⟨h1.lt, z.lt⟩ ⟨h3.lt, z.lt⟩ ⟨h5.lt, hb.lt⟩) (ok3 h1.may z.may h3.may z.may h5.may hb.may)
  have e : sgn (turnV (ax, 0) (bx, 0) (cx, b)) = s := by
    unfold turnV
    simp only [h1.vb, h3.vb, h5.vb, hb.vb, z.vb]
    have e2 : (QX * UQ 20 - PX * UQ 20) * (s * UQ p - 0 * UQ 20) - (0 * UQ 20 - 0 * UQ 20) * (RX * UQ 20 - PX * UQ 20) = s * ((QX - PX) * (UQ 20 * UQ p)) := by grind
    rw [e2, sgn_scale _ _ (Int.mul_pos (by omega) (Int.mul_pos (UQ_pos 20) (UQ_pos p)))]
    rcases hs with rfl | rfl <;> rfl
  rw [e] at h
  exact h

set_option maxHeartbeats 16000000 in
set_option maxRecDepth 100000 in
theorem hair_walk (a0 a1 b0 b1 n m PX PY g WX WY h K K1 j J JX JY QX QY KX KY RX RY : Int) (down fine : Bool) (w : World)
    (ha : AtR a0 a1 PX PY) (k1 : PkR b0 4000 g) (k2 : BeR b1 WY) (k3 : PkR n 4000 h) (k4 : PkR m 4000 j)
    (l1 : BcR 1 (-100) 4156822456062967808) (l2 : BcR 1 (-60) 4336966441157787648) (hA : Hr 4156822456062967808 1 (-100)) (hB : Hr 4336966441157787648 1 (-60)) (hC : Hr 13380194492917743616 (-1) (-100)) (hD : Hr 13560338478012563456 (-1) (-60))
    (i1 : BiR PX 20) (i2 : BiR QX 20) (i3 : BiR RX 20) (i4 : BiR PX 0) (i5 : BiR PY 0) (i6 : BiR QX 0) (i7 : BiR QY 0) (i8 : BiR RX 0) (i9 : BiR RY 0)
    (hPQ : PX < QX) (hT : turnW (PX, PY) (QX, QY) (RX, RY) = 0)
    (e1 : 1 + g = WX) (e2 : 1 + h = K) (e3 : K + 1 = K1) (e4 : K1 + j = J) (e5 : J * WX = JX) (e6 : PX + JX = QX) (e7 : J * WY = JY) (e8 : PY + JY = QY) (e9 : K * WX = KX) (e10 : PX + KX = RX) (e11 : K * WY = KY) (e12 : PY + KY = RY)
    (z1 : IntKind.i64.wrap WX = WX) (z2 : IntKind.i64.wrap K = K) (z3 : IntKind.i64.wrap K1 = K1) (z4 : IntKind.i64.wrap J = J) (z5 : IntKind.i64.wrap JX = JX) (z6 : IntKind.i64.wrap QX = QX) (z7 : IntKind.i64.wrap JY = JY) (z8 : IntKind.i64.wrap QY = QY) (z9 : IntKind.i64.wrap KX = KX) (z10 : IntKind.i64.wrap RX = RX) (z11 : IntKind.i64.wrap KY = KY) (z12 : IntKind.i64.wrap RY = RY) :
    Calls Try.prog 6 #[.agg #[.int .i64 a0, .int .i64 a1], .agg #[.int .i64 b0, .int .i64 b1], .int .i64 n, .int .i64 m, .bool down, .bool fine] w fun e w' => e = .returned (.bool true) ∧ Below w.heap.size w w' := by
  have hs0 : sgn 0 = 0 := rfl
  go_enter Try.func6, Try.ntmps6
  go_upto_region 1 with fail
  generalize hWd : World.alloc (World.alloc w _) _ = W
  have hWs : W.heap.size = w.heap.size + 2 := by subst hWd; simp
  have hw : Below w.heap.size w W := by subst hWd; exact (((Below.refl _ w).alloc (by simp) _).alloc (by simp) _)
  have KS : ∀ w', Below W.heap.size W w' → (w'.cell? ⟨w.heap.size, 0, none⟩ = some (.int .i64 a0) ∧ w'.cell? ⟨w.heap.size, 1, none⟩ = some (.int .i64 a1)) ∧ (w'.cell? ⟨w.heap.size + 1, 0, none⟩ = some (.int .i64 b0) ∧ w'.cell? ⟨w.heap.size + 1, 1, none⟩ = some (.int .i64 b1)) := by
    intro w' hb
    obtain ⟨hc, _⟩ := bcell hb
    refine ⟨⟨?_, ?_⟩, ⟨?_, ?_⟩⟩
    all_goals (rw [hc _ _ (by rw [hWs]; simp [Nat.lt_succ_iff, Nat.le_succ_of_le])]; subst hWd; simp [go_sem])
  clear hWd hWs
  have hS := KS W (Below.refl _ _)
  have hW : Below W.heap.size W W := Below.refl _ _
  go_upto_region 3 with (first | (go_at_call 9; go_must (refine (known_any _).mono ?_; rintro e wk ⟨rfl, hbk⟩; have hW := below_step hbk hW; have hS := KS _ hW)) | (go_at_call 15; go_must (refine (AtR.use (by assumption) _).mono ?_; rintro e wk ⟨rfl, hbk⟩; have hW := below_step hbk hW)))
  obtain ⟨bP, hbP⟩ : ∃ z, z = wk.heap.size := ⟨_, rfl⟩
  rw [← hbP]
  generalize hWd : World.alloc wk _ = WP
  have hnP : Below W.heap.size W WP := by subst hWd; exact below_alloc _ hW
  have KSP : ∀ w', Below WP.heap.size WP w' → (w'.cell? ⟨w.heap.size, 0, none⟩ = some (.int .i64 a0) ∧ w'.cell? ⟨w.heap.size, 1, none⟩ = some (.int .i64 a1)) ∧ (w'.cell? ⟨w.heap.size + 1, 0, none⟩ = some (.int .i64 b0) ∧ w'.cell? ⟨w.heap.size + 1, 1, none⟩ = some (.int .i64 b1)) ∧ (w'.cell? ⟨bP, 0, none⟩ = some (.int .i64 PX) ∧ w'.cell? ⟨bP, 1, none⟩ = some (.int .i64 PY)) := by
    intro w' hb
    obtain ⟨hc, _⟩ := bcell hb
    have hlt : bP < WP.heap.size := by subst hWd; rw [hbP]; simp
    have h9 := KS w' (hnP.trans (hb.mono hnP.size))
    have h8 : w'.cell? ⟨bP, 0, none⟩ = some (.int .i64 PX) ∧ w'.cell? ⟨bP, 1, none⟩ = some (.int .i64 PY) := by
      rw [hc _ _ hlt, hc _ _ hlt]
      subst hWd
      simp [go_sem, hbP]
    exact ⟨h9.1, h9.2, h8⟩
  have hwP : Below w.heap.size w WP := hw.trans (hnP.mono hw.size)
  clear hWd hbP hW hbk
  clear wk
  have hS := KSP WP (Below.refl _ _)
  have hW : Below WP.heap.size WP WP := Below.refl _ _
  go_cut [15] (fun vv wc => ∃ b, vv = .pointer (some ⟨b, 0, none⟩) ∧ b < wc.heap.size ∧ wc.cell? ⟨b, 0, none⟩ = some (.int .i64 WX) ∧ wc.cell? ⟨b, 1, none⟩ = some (.int .i64 WY) ∧ Below WP.heap.size WP wc)
  case first =>
    go_region_held3 (fun w' : World => (w'.cell? ⟨w.heap.size, 0, none⟩ = some (.int .i64 a0) ∧ w'.cell? ⟨w.heap.size, 1, none⟩ = some (.int .i64 a1)) ∧ (w'.cell? ⟨w.heap.size + 1, 0, none⟩ = some (.int .i64 b0) ∧ w'.cell? ⟨w.heap.size + 1, 1, none⟩ = some (.int .i64 b1)) ∧ (w'.cell? ⟨bP, 0, none⟩ = some (.int .i64 PX) ∧ w'.cell? ⟨bP, 1, none⟩ = some (.int .i64 PY))) (exact KSP _ (by repeat (with_reducible first | refine Below.setCell ?_ (by first | (dsimp only; omega) | omega | (simp; done) | (simp; omega)) _ | refine below_alloc _ ?_ | refine Below.drew ?_ | exact hW | exact Below.refl _ _))) (first | (go_at_call 18; go_must (refine (PkR.use (by assumption) _).mono ?_; rintro e w1 ⟨rfl, hw1⟩; have hw1 := hw1.symm; subst hw1)) | (go_at_call 19; go_must (refine (BeR.use (by assumption) _).mono ?_; rintro e w1 ⟨rfl, hw1⟩; have hw1 := hw1.symm; subst hw1)))
    all_goals
      (try go_wp2_with fail)
      (try dsimp only)
      go_meet
      exact ⟨_, rfl, by simp <;> omega, by simp [go_sem], by simp [go_sem], (by repeat (with_reducible first | refine Below.setCell ?_ (by first | (dsimp only; omega) | omega | (simp; done) | (simp; omega)) _ | refine below_alloc _ ?_ | refine Below.drew ?_ | exact hW | exact Below.refl _ _))⟩
  case rest =>
  obtain ⟨bW, rfl, hlt, hc0, hc1, hnW⟩ := hcut
  have KSW : ∀ w', Below wc.heap.size wc w' → (w'.cell? ⟨w.heap.size, 0, none⟩ = some (.int .i64 a0) ∧ w'.cell? ⟨w.heap.size, 1, none⟩ = some (.int .i64 a1)) ∧ (w'.cell? ⟨w.heap.size + 1, 0, none⟩ = some (.int .i64 b0) ∧ w'.cell? ⟨w.heap.size + 1, 1, none⟩ = some (.int .i64 b1)) ∧ (w'.cell? ⟨bP, 0, none⟩ = some (.int .i64 PX) ∧ w'.cell? ⟨bP, 1, none⟩ = some (.int .i64 PY)) ∧ (w'.cell? ⟨bW, 0, none⟩ = some (.int .i64 WX) ∧ w'.cell? ⟨bW, 1, none⟩ = some (.int .i64 WY)) := by
    intro w' hb
    obtain ⟨hc, _⟩ := bcell hb
    have h9 := KSP w' (hnW.trans (hb.mono hnW.size))
    exact ⟨h9.1, h9.2.1, h9.2.2, by rw [hc _ _ hlt]; exact hc0, by rw [hc _ _ hlt]; exact hc1⟩
  have hwW := hwP.trans (hnW.mono hwP.size)
  clear hlt hc0 hc1
  obtain ⟨WW, hWW⟩ : ∃ z, z = wc := ⟨_, rfl⟩
  subst hWW
  have hS := KSW WW (Below.refl _ _)
  have hW : Below WW.heap.size WW WW := Below.refl _ _
  go_upto_region 5 with (first | (go_at_call 18; go_must (refine (PkR.use (by assumption) _).mono ?_; rintro e w1 ⟨rfl, hw1⟩; have hw1 := hw1.symm; subst hw1)))
  go_cut [17] (fun vv wc => ∃ b, vv = .pointer (some ⟨b, 0, none⟩) ∧ b < wc.heap.size ∧ wc.cell? ⟨b, 0, none⟩ = some (.int .i64 QX) ∧ wc.cell? ⟨b, 1, none⟩ = some (.int .i64 QY) ∧ Below WW.heap.size WW wc)
  case first =>
    go_region_held3 (fun w' : World => (w'.cell? ⟨w.heap.size, 0, none⟩ = some (.int .i64 a0) ∧ w'.cell? ⟨w.heap.size, 1, none⟩ = some (.int .i64 a1)) ∧ (w'.cell? ⟨w.heap.size + 1, 0, none⟩ = some (.int .i64 b0) ∧ w'.cell? ⟨w.heap.size + 1, 1, none⟩ = some (.int .i64 b1)) ∧ (w'.cell? ⟨bP, 0, none⟩ = some (.int .i64 PX) ∧ w'.cell? ⟨bP, 1, none⟩ = some (.int .i64 PY)) ∧ (w'.cell? ⟨bW, 0, none⟩ = some (.int .i64 WX) ∧ w'.cell? ⟨bW, 1, none⟩ = some (.int .i64 WY))) (exact KSW _ (by repeat (with_reducible first | refine Below.setCell ?_ (by first | (dsimp only; omega) | omega | (simp; done) | (simp; omega)) _ | refine below_alloc _ ?_ | refine Below.drew ?_ | exact hW | exact Below.refl _ _))) (first | (go_at_call 18; go_must (refine (PkR.use (by assumption) _).mono ?_; rintro e w1 ⟨rfl, hw1⟩; have hw1 := hw1.symm; subst hw1)))
    all_goals
      (try go_wp2_with fail)
      (try dsimp only)
      go_meet
      exact ⟨_, rfl, by simp <;> omega, by simp [go_sem], by simp [go_sem], (by repeat (with_reducible first | refine Below.setCell ?_ (by first | (dsimp only; omega) | omega | (simp; done) | (simp; omega)) _ | refine below_alloc _ ?_ | refine Below.drew ?_ | exact hW | exact Below.refl _ _))⟩
  case rest =>
  obtain ⟨bQ, rfl, hlt, hc0, hc1, hnQ⟩ := hcut
  have KSQ : ∀ w', Below wc.heap.size wc w' → (w'.cell? ⟨w.heap.size, 0, none⟩ = some (.int .i64 a0) ∧ w'.cell? ⟨w.heap.size, 1, none⟩ = some (.int .i64 a1)) ∧ (w'.cell? ⟨w.heap.size + 1, 0, none⟩ = some (.int .i64 b0) ∧ w'.cell? ⟨w.heap.size + 1, 1, none⟩ = some (.int .i64 b1)) ∧ (w'.cell? ⟨bP, 0, none⟩ = some (.int .i64 PX) ∧ w'.cell? ⟨bP, 1, none⟩ = some (.int .i64 PY)) ∧ (w'.cell? ⟨bW, 0, none⟩ = some (.int .i64 WX) ∧ w'.cell? ⟨bW, 1, none⟩ = some (.int .i64 WY)) ∧ (w'.cell? ⟨bQ, 0, none⟩ = some (.int .i64 QX) ∧ w'.cell? ⟨bQ, 1, none⟩ = some (.int .i64 QY)) := by
    intro w' hb
    obtain ⟨hc, _⟩ := bcell hb
    have h9 := KSW w' (hnQ.trans (hb.mono hnQ.size))
    exact ⟨h9.1, h9.2.1, h9.2.2.1, h9.2.2.2, by rw [hc _ _ hlt]; exact hc0, by rw [hc _ _ hlt]; exact hc1⟩
  have hwQ := hwW.trans (hnQ.mono hwW.size)
  clear hlt hc0 hc1
  obtain ⟨WQ, hWW⟩ : ∃ z, z = wc := ⟨_, rfl⟩
  subst hWW
  have hS := KSQ WQ (Below.refl _ _)
  have hW : Below WQ.heap.size WQ WQ := Below.refl _ _
  go_upto_region 6 with fail
  go_cut [18] (fun vv wc => ∃ b, vv = .pointer (some ⟨b, 0, none⟩) ∧ b < wc.heap.size ∧ wc.cell? ⟨b, 0, none⟩ = some (.int .i64 RX) ∧ wc.cell? ⟨b, 1, none⟩ = some (.int .i64 RY) ∧ Below WQ.heap.size WQ wc)
  case first =>
    (try go_wp2_with fail)
    (try dsimp only)
    go_meet
    exact ⟨_, rfl, by simp <;> omega, by simp [go_sem], by simp [go_sem], (by repeat (with_reducible first | refine Below.setCell ?_ (by first | (dsimp only; omega) | omega | (simp; done) | (simp; omega)) _ | refine below_alloc _ ?_ | refine Below.drew ?_ | exact hW | exact Below.refl _ _))⟩
  case rest =>
  obtain ⟨bR, rfl, hlt, hc0, hc1, hnR⟩ := hcut
  have KSR : ∀ w', Below wc.heap.size wc w' → (w'.cell? ⟨w.heap.size, 0, none⟩ = some (.int .i64 a0) ∧ w'.cell? ⟨w.heap.size, 1, none⟩ = some (.int .i64 a1)) ∧ (w'.cell? ⟨w.heap.size + 1, 0, none⟩ = some (.int .i64 b0) ∧ w'.cell? ⟨w.heap.size + 1, 1, none⟩ = some (.int .i64 b1)) ∧ (w'.cell? ⟨bP, 0, none⟩ = some (.int .i64 PX) ∧ w'.cell? ⟨bP, 1, none⟩ = some (.int .i64 PY)) ∧ (w'.cell? ⟨bW, 0, none⟩ = some (.int .i64 WX) ∧ w'.cell? ⟨bW, 1, none⟩ = some (.int .i64 WY)) ∧ (w'.cell? ⟨bQ, 0, none⟩ = some (.int .i64 QX) ∧ w'.cell? ⟨bQ, 1, none⟩ = some (.int .i64 QY)) ∧ (w'.cell? ⟨bR, 0, none⟩ = some (.int .i64 RX) ∧ w'.cell? ⟨bR, 1, none⟩ = some (.int .i64 RY)) := by
    intro w' hb
    obtain ⟨hc, _⟩ := bcell hb
    have h9 := KSQ w' (hnR.trans (hb.mono hnR.size))
    exact ⟨h9.1, h9.2.1, h9.2.2.1, h9.2.2.2.1, h9.2.2.2.2, by rw [hc _ _ hlt]; exact hc0, by rw [hc _ _ hlt]; exact hc1⟩
  have hwR := hwQ.trans (hnR.mono hwQ.size)
  clear hlt hc0 hc1
  obtain ⟨WR, hWW⟩ : ∃ z, z = wc := ⟨_, rfl⟩
  subst hWW
  have hS := KSR WR (Below.refl _ _)
  have hW : Below WR.heap.size WR WR := Below.refl _ _
  clear e1 e2 e3 e4 e5 e6 e7 e8 e9 e10 e11 e12 z1 z2 z3 z4 z5 z6 z7 z8 z9 z10 z11 z12 KS KSP KSW KSQ
  have KT : ∀ w', Below WR.heap.size WR w' → (w'.cell? ⟨bP, 0, none⟩ = some (.int .i64 PX) ∧ w'.cell? ⟨bP, 1, none⟩ = some (.int .i64 PY)) ∧ (w'.cell? ⟨bQ, 0, none⟩ = some (.int .i64 QX) ∧ w'.cell? ⟨bQ, 1, none⟩ = some (.int .i64 QY)) ∧ (w'.cell? ⟨bR, 0, none⟩ = some (.int .i64 RX) ∧ w'.cell? ⟨bR, 1, none⟩ = some (.int .i64 RY)) := fun w' h => ⟨(KSR w' h).2.2.1, (KSR w' h).2.2.2.2.1, (KSR w' h).2.2.2.2.2⟩
  clear KSR
  clear hS
  have hS := KT WR (Below.refl _ _)
  go_upto_if 78 with (first | (go_at_call 20; refine (BcR.use (by assumption) _).mono ?_; rintro e w1 ⟨rfl, hw1⟩; have hw1 := hw1.symm; subst hw1))
  go_cut [19] (fun v19 wc => ∃ c : Int, v19 = .int .u64 c ∧ (c = 4156822456062967808 ∨ c = 4336966441157787648) ∧ wc = WR)
  case first =>
    rcases fine with _ | _
    all_goals
      (try go_wp2_with (first | (go_at_call 20; refine (BcR.use (by assumption) _).mono ?_; rintro e w1 ⟨rfl, hw1⟩; have hw1 := hw1.symm; subst hw1)))
      (try dsimp only)
      go_meet
      first
        | exact ⟨_, rfl, .inl rfl, rfl⟩
        | exact ⟨_, rfl, .inr rfl, rfl⟩
  case rest =>
  obtain ⟨c, rfl, hcc, hWW⟩ := hcut
  have hWW := hWW.symm
  subst hWW
  go_upto_if 80 with fail
  go_cut [19, 20] (fun v19 v20 wc => ∃ c s p : Int, v19 = .int .u64 c ∧ v20 = .int .i64 s ∧ Hr c s p ∧ wc = WR)
  case first =>
    rcases hcc with rfl | rfl <;> rcases down with _ | _
    all_goals
      (try go_wp2_with fail)
      (try dsimp only)
      go_meet
      first
        | exact ⟨_, _, _, rfl, rfl, hA, rfl⟩
        | exact ⟨_, _, _, rfl, rfl, hB, rfl⟩
        | exact ⟨_, _, _, rfl, rfl, hC, rfl⟩
        | exact ⟨_, _, _, rfl, rfl, hD, rfl⟩
  case rest =>
  clear hcc
  obtain ⟨c, s, p, rfl, rfl, hH, hWW⟩ := hcut
  have hWW := hWW.symm
  subst hWW
  clear hA hB hC hD l1 l2 k1 k2 k3 k4 ha
  go_upto_region 14 with fail
  go_region_held3 (fun w' : World => (w'.cell? ⟨bP, 0, none⟩ = some (.int .i64 PX) ∧ w'.cell? ⟨bP, 1, none⟩ = some (.int .i64 PY)) ∧ (w'.cell? ⟨bQ, 0, none⟩ = some (.int .i64 QX) ∧ w'.cell? ⟨bQ, 1, none⟩ = some (.int .i64 QY)) ∧ (w'.cell? ⟨bR, 0, none⟩ = some (.int .i64 RX) ∧ w'.cell? ⟨bR, 1, none⟩ = some (.int .i64 RY))) (exact KT _ (by repeat (with_reducible first | refine Below.setCell ?_ (by first | (dsimp only; omega) | omega | (simp; done) | (simp; omega)) _ | refine below_alloc _ ?_ | refine Below.drew ?_ | exact hW | exact Below.refl _ _))) (first | (go_at_call 20; go_must (refine (BiR.use (by assumption) _).mono ?_; rintro e w1 ⟨b1, rfl, hb1, hw1⟩; have hw1 := hw1.symm; subst hw1)) | (go_at_call 10; refine (orient_hair (by assumption) (by assumption) (by assumption) (by assumption) (by assumption) _).mono ?_; rintro e wk ⟨hbk, rfl⟩; have hW : Below WR.heap.size WR wk := below_step hbk (by repeat (with_reducible first | refine Below.setCell ?_ (by first | (dsimp only; omega) | omega | (simp; done) | (simp; omega)) _ | refine below_alloc _ ?_ | refine Below.drew ?_ | exact hW | exact Below.refl _ _))))
  all_goals
    clear hS
    have hS := KT _ hW
    go_upto_region 15 with fail
    clear i1 i2 i3 hH hPQ
    go_region_held3 (fun w' : World => (w'.cell? ⟨bP, 0, none⟩ = some (.int .i64 PX) ∧ w'.cell? ⟨bP, 1, none⟩ = some (.int .i64 PY)) ∧ (w'.cell? ⟨bQ, 0, none⟩ = some (.int .i64 QX) ∧ w'.cell? ⟨bQ, 1, none⟩ = some (.int .i64 QY)) ∧ (w'.cell? ⟨bR, 0, none⟩ = some (.int .i64 RX) ∧ w'.cell? ⟨bR, 1, none⟩ = some (.int .i64 RY))) (exact KT _ (by repeat (with_reducible first | refine Below.setCell ?_ (by first | (dsimp only; omega) | omega | (simp; done) | (simp; omega)) _ | refine below_alloc _ ?_ | refine Below.drew ?_ | exact hW | exact Below.refl _ _))) (first | (go_at_call 20; go_must (refine (BiR.use (by assumption) _).mono ?_; rintro e w1 ⟨b1, rfl, hb1, hw1⟩; have hw1 := hw1.symm; subst hw1)) | (go_at_call 10; go_must (refine (orient_bt (by assumption) (by assumption) (by assumption) (by assumption) (by assumption) (by assumption) _).mono ?_; rintro e wk ⟨hbk, rfl⟩; have hW : Below WR.heap.size WR wk := below_step hbk (by repeat (with_reducible first | refine Below.setCell ?_ (by first | (dsimp only; omega) | omega | (simp; done) | (simp; omega)) _ | refine below_alloc _ ?_ | refine Below.drew ?_ | exact hW | exact Below.refl _ _)))))
    all_goals
      clear hS
      have hS := KT _ hW
      go_wp2
      go_ret
      exact ⟨ret_bool (by first | rfl | (simp [hT, hs0]; done)), hwR.trans (hW.mono hwR.size)⟩

end Go.Proofs.Ytbjjkfmdkmbcfaa
