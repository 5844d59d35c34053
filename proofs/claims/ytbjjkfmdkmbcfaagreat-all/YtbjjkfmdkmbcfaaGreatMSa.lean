import Derived.Test.YtbjjkfmdkmbcfaaGreatMRo
namespace Go.Proofs.YtbjjkfmdkmbcfaaGreat
open Go.RowKit
open PlLv

attribute [local go_sem ↓] Go.wp_at_zero Go.wp_at_succ

/-- The sign is one of three. -/
theorem sgn_three (x : Int) : PlRd.sgn x = -1 ∨ PlRd.sgn x = 0 ∨ PlRd.sgn x = 1 := by
  unfold PlRd.sgn
  split
  · exact .inr (.inr rfl)
  · split
    · exact .inl rfl
    · exact .inr (.inl rfl)

theorem wrap_three {s t : Int} (hs : s = -1 ∨ s = 0 ∨ s = 1) (ht : t = -1 ∨ t = 0 ∨ t = 1) : wrap64 (s * t) = s * t := by
  rcases hs with rfl | rfl | rfl <;> rcases ht with rfl | rfl | rfl <;> first | decide | (unfold wrap64; decide)

set_option maxHeartbeats 4000000 in
set_option maxRecDepth 100000 in
theorem between_any (na : Bool) (oa : Option Addr) (ca : Nat) (la : List Nat) (A : Int) (nb : Bool) (ob : Option Addr) (cb : Nat) (lb : List Nat) (B : Int) (nx : Bool) (ox : Option Addr) (cx : Nat) (lx : List Nat) (X : Int) (w : World)
    (ha : Bg w na (.slice oa la.length ca) la A) (sa : A.natAbs < 2 ^ 200) (hb : Bg w nb (.slice ob lb.length cb) lb B) (sb : B.natAbs < 2 ^ 200) (hx : Bg w nx (.slice ox lx.length cx) lx X) (sx : X.natAbs < 2 ^ 200) :
    Calls Tryz.prog 64 #[.agg #[.bool na, .slice oa la.length ca], .agg #[.bool nb, .slice ob lb.length cb], .agg #[.bool nx, .slice ox lx.length cx]] w fun e w' => Below w.heap.size w w' ∧ e = .returned (.bool (decide (PlRd.sgn (X - A) * PlRd.sgn (X - B) ≤ 0))) := by
  obtain ⟨s, hs⟩ : ∃ s, s = PlRd.sgn (X - A) := ⟨_, rfl⟩
  obtain ⟨t, ht⟩ : ∃ t, t = PlRd.sgn (X - B) := ⟨_, rfl⟩
  have HS : Hid (s = PlRd.sgn (X - A)) := hs
  have HT : Hid (t = PlRd.sgn (X - B)) := ht
  rw [← hs, ← ht]
  have s3 : s = -1 ∨ s = 0 ∨ s = 1 := hs ▸ sgn_three _
  have t3 : t = -1 ∨ t = 0 ∨ t = 1 := ht ▸ sgn_three _
  clear hs ht
  go_enter Tryz.func64, Tryz.ntmps64
  go_upto_region 1 with fail
  generalize hW : World.alloc (World.alloc (World.alloc w _) _) _ = W
  have hWs : W.heap.size = w.heap.size + 3 := by subst hW; simp
  have hw : Below w.heap.size w W := by
    subst hW
    exact ((((Below.refl _ w).alloc (Nat.le_refl _) _).alloc (by simp) _).alloc (by simp; omega) _)
  have KS : ∀ w', Below W.heap.size W w' → (w'.cell? ⟨w.heap.size, 0, none⟩ = some (.bool na) ∧ w'.cell? ⟨w.heap.size, 1, none⟩ = some (.slice oa la.length ca) ∧ w'.cell? ⟨w.heap.size + 1, 0, none⟩ = some (.bool nb) ∧ w'.cell? ⟨w.heap.size + 1, 1, none⟩ = some (.slice ob lb.length cb) ∧ w'.cell? ⟨w.heap.size + 1 + 1, 0, none⟩ = some (.bool nx) ∧ w'.cell? ⟨w.heap.size + 1 + 1, 1, none⟩ = some (.slice ox lx.length cx)) := by
    intro w' hb
    obtain ⟨hc, _⟩ := bcell hb
    refine ⟨?_, ?_, ?_, ?_, ?_, ?_⟩
    all_goals (rw [hc _ _ (by omega)]; subst hW; simp [go_sem])
  clear hW hWs
  have ha' := ha.kept hw
  have hb' := hb.kept hw
  have hx' := hx.kept hw
  clear ha hb hx
  obtain ⟨p0, p1, p2, p3, p4, p5⟩ := KS W (Below.refl _ _)
  go_wp2_with (first
    | (go_at_call 23; have g1 := hb2; go_must (refine (less_bg nx nb _ _ lx lb X B _ (hx'.kept (below_step hb2 hb1)) (hb'.kept (below_step hb2 hb1)) (small200 sx) (small200 sb)).mono ?_; rintro e w3 ⟨m3, v3, k3, rfl, hg3, hb3⟩; obtain ⟨a3, d3, hv3⟩ := bg_form hg3; subst hv3))
    | (go_at_call 23; go_must (refine (less_bg nx na _ _ lx la X A _ hx' ha' (small200 sx) (small200 sa)).mono ?_; rintro e w1 ⟨m1, v1, k1, rfl, hg1, hb1⟩; obtain ⟨a1, d1, hv1⟩ := bg_form hg1; subst hv1))
    | (go_at_call 22; have g1 := hb3; go_must (refine (sign_bg m3 _ k3 _ _ hg3).mono ?_; rintro e w4 ⟨he4, hb4⟩; rw [← HT.out] at he4; subst he4))
    | (go_at_call 22; go_must (refine (sign_bg m1 _ k1 _ _ hg1).mono ?_; rintro e w2 ⟨he2, hb2⟩; rw [← HS.out] at he2; subst he2; obtain ⟨q0, q1, q2, q3, q4, q5⟩ := KS w2 (below_step hb2 hb1))))
  go_ret
  exact ⟨hw.trans ((below_step hb4 (below_step hb3 (below_step hb2 hb1))).mono hw.size), by simp [wrap_three s3 t3]⟩

/-- On: the turn is nought, and both coordinates lie between. -/
def onP (ax ay bx by' px py : Int) : Bool := (decide (PlRd.sgn ((bx - ax) * (py - ay) - (by' - ay) * (px - ax)) = 0) && decide (PlRd.sgn (px - ax) * PlRd.sgn (px - bx) ≤ 0)) && decide (PlRd.sgn (py - ay) * PlRd.sgn (py - by') ≤ 0)

set_option maxHeartbeats 4000000 in
set_option maxRecDepth 100000 in
theorem on_any (nax : Bool) (oax : Option Addr) (cax : Nat) (lax : List Nat) (Xax : Int) (nay : Bool) (oay : Option Addr) (cay : Nat) (lay : List Nat) (Xay : Int) (nbx : Bool) (obx : Option Addr) (cbx : Nat) (lbx : List Nat) (Xbx : Int) (nby : Bool) (oby : Option Addr) (cby : Nat) (lby : List Nat) (Xby : Int) (npx : Bool) (opx : Option Addr) (cpx : Nat) (lpx : List Nat) (Xpx : Int) (npy : Bool) (opy : Option Addr) (cpy : Nat) (lpy : List Nat) (Xpy : Int) (w : World) (hax : Bg w nax (.slice oax lax.length cax) lax Xax) (sax : Xax.natAbs < 2 ^ 200) (hay : Bg w nay (.slice oay lay.length cay) lay Xay) (say : Xay.natAbs < 2 ^ 200) (hbx : Bg w nbx (.slice obx lbx.length cbx) lbx Xbx) (sbx : Xbx.natAbs < 2 ^ 200) (hby : Bg w nby (.slice oby lby.length cby) lby Xby) (sby : Xby.natAbs < 2 ^ 200) (hpx : Bg w npx (.slice opx lpx.length cpx) lpx Xpx) (spx : Xpx.natAbs < 2 ^ 200) (hpy : Bg w npy (.slice opy lpy.length cpy) lpy Xpy) (spy : Xpy.natAbs < 2 ^ 200) :
    Calls Tryz.prog 47 #[.agg #[.bool nax, .slice oax lax.length cax, .bool nay, .slice oay lay.length cay], .agg #[.bool nbx, .slice obx lbx.length cbx, .bool nby, .slice oby lby.length cby], .agg #[.bool npx, .slice opx lpx.length cpx, .bool npy, .slice opy lpy.length cpy]] w fun e w' => Below w.heap.size w w' ∧ e = .returned (.bool (onP Xax Xay Xbx Xby Xpx Xpy)) := by
  obtain ⟨t, ht⟩ : ∃ t, t = PlRd.sgn ((Xbx - Xax) * (Xpy - Xay) - (Xby - Xay) * (Xpx - Xax)) := ⟨_, rfl⟩
  obtain ⟨x, hx⟩ : ∃ x, x = decide (PlRd.sgn (Xpx - Xax) * PlRd.sgn (Xpx - Xbx) ≤ 0) := ⟨_, rfl⟩
  obtain ⟨y, hy⟩ : ∃ y, y = decide (PlRd.sgn (Xpy - Xay) * PlRd.sgn (Xpy - Xby) ≤ 0) := ⟨_, rfl⟩
  have hr : onP Xax Xay Xbx Xby Xpx Xpy = ((decide (t = 0) && x) && y) := by unfold onP; rw [ht, hx, hy]
  rw [hr]
  have HT : Hid (t = PlRd.sgn ((Xbx - Xax) * (Xpy - Xay) - (Xby - Xay) * (Xpx - Xax))) := ht
  have HX : Hid (x = decide (PlRd.sgn (Xpx - Xax) * PlRd.sgn (Xpx - Xbx) ≤ 0)) := hx
  have HY : Hid (y = decide (PlRd.sgn (Xpy - Xay) * PlRd.sgn (Xpy - Xby) ≤ 0)) := hy
  clear ht hx hy hr
  by_cases h0 : t = 0 <;> cases x <;> cases y
  all_goals
    go_enter Tryz.func47, Tryz.ntmps47
    go_upto_region 1 with fail
    generalize hW : World.alloc (World.alloc (World.alloc w _) _) _ = W
    have hWs : W.heap.size = w.heap.size + 3 := by subst hW; simp
    have hw : Below w.heap.size w W := by
      subst hW
      exact ((((Below.refl _ w).alloc (Nat.le_refl _) _).alloc (by simp) _).alloc (by simp; omega) _)
    have KS : ∀ w', Below W.heap.size W w' → (w'.cell? ⟨w.heap.size, 0, none⟩ = some (.bool nax) ∧ w'.cell? ⟨w.heap.size, 1, none⟩ = some (.slice oax lax.length cax) ∧ w'.cell? ⟨w.heap.size, 2, none⟩ = some (.bool nay) ∧ w'.cell? ⟨w.heap.size, 3, none⟩ = some (.slice oay lay.length cay) ∧ w'.cell? ⟨w.heap.size + 1, 0, none⟩ = some (.bool nbx) ∧ w'.cell? ⟨w.heap.size + 1, 1, none⟩ = some (.slice obx lbx.length cbx) ∧ w'.cell? ⟨w.heap.size + 1, 2, none⟩ = some (.bool nby) ∧ w'.cell? ⟨w.heap.size + 1, 3, none⟩ = some (.slice oby lby.length cby) ∧ w'.cell? ⟨w.heap.size + 1 + 1, 0, none⟩ = some (.bool npx) ∧ w'.cell? ⟨w.heap.size + 1 + 1, 1, none⟩ = some (.slice opx lpx.length cpx) ∧ w'.cell? ⟨w.heap.size + 1 + 1, 2, none⟩ = some (.bool npy) ∧ w'.cell? ⟨w.heap.size + 1 + 1, 3, none⟩ = some (.slice opy lpy.length cpy)) := by
      intro w' hb
      obtain ⟨hc, _⟩ := bcell hb
      refine ⟨?_, ?_, ?_, ?_, ?_, ?_, ?_, ?_, ?_, ?_, ?_, ?_⟩
      all_goals (rw [hc _ _ (by omega)]; subst hW; simp [go_sem])
    clear hW hWs
    obtain ⟨p0, p1, p2, p3, p4, p5, p6, p7, p8, p9, p10, p11⟩ := KS W (Below.refl _ _)
    go_wp2_with (first
      | (go_at_call 64; have g1 := hb2; go_must (refine (between_any nay _ _ lay Xay nby _ _ lby Xby npy _ _ lpy Xpy _ (hay.kept (hw.trans ((below_step hb2 hb1).mono hw.size))) say (hby.kept (hw.trans ((below_step hb2 hb1).mono hw.size))) sby (hpy.kept (hw.trans ((below_step hb2 hb1).mono hw.size))) spy).mono ?_; rintro e w3 ⟨hb3, he3⟩; rw [← HY.out] at he3; subst he3))
      | (go_at_call 64; go_must (refine (between_any nax _ _ lax Xax nbx _ _ lbx Xbx npx _ _ lpx Xpx _ (hax.kept (hw.trans (hb1.mono hw.size))) sax (hbx.kept (hw.trans (hb1.mono hw.size))) sbx (hpx.kept (hw.trans (hb1.mono hw.size))) spx).mono ?_; rintro e w2 ⟨hb2, he2⟩; rw [← HX.out] at he2; subst he2; obtain ⟨u0, u1, u2, u3, u4, u5, u6, u7, u8, u9, u10, u11⟩ := KS w2 (below_step hb2 hb1)))
      | (go_at_call 21; go_must (refine (rturn_any nax _ _ lax Xax nay _ _ lay Xay nbx _ _ lbx Xbx nby _ _ lby Xby npx _ _ lpx Xpx npy _ _ lpy Xpy _ (hax.kept hw) sax (hay.kept hw) say (hbx.kept hw) sbx (hby.kept hw) sby (hpx.kept hw) spx (hpy.kept hw) spy).mono ?_; rintro e w1 ⟨hb1, he1⟩; rw [← HT.out] at he1; subst he1; obtain ⟨q0, q1, q2, q3, q4, q5, q6, q7, q8, q9, q10, q11⟩ := KS w1 hb1)))
    all_goals
      go_ret
      exact ⟨hw.trans ((below_step hb3 (below_step hb2 hb1)).mono hw.size), by simp [h0]⟩

end Go.Proofs.YtbjjkfmdkmbcfaaGreat
