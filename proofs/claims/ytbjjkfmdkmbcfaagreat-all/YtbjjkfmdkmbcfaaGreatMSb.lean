import Derived.Test.YtbjjkfmdkmbcfaaGreatMSa
namespace Go.Proofs.YtbjjkfmdkmbcfaaGreat
open Go.RowKit
open PlLv

attribute [local go_sem ↓] Go.wp_at_zero Go.wp_at_succ

theorem wrap_three2 {s t : Int} (hs : s = -1 ∨ s = 0 ∨ s = 1) (ht : t = -1 ∨ t = 0 ∨ t = 1) : IntKind.i64.wrap (s * t) = s * t := by
  rcases hs with rfl | rfl | rfl <;> rcases ht with rfl | rfl | rfl <;> decide

/-- The sign of the turn. -/
def trnS (ax ay bx by' cx cy : Int) : Int := PlRd.sgn ((bx - ax) * (cy - ay) - (by' - ay) * (cx - ax))

theorem trnS_three (ax ay bx by' cx cy : Int) : trnS ax ay bx by' cx cy = -1 ∨ trnS ax ay bx by' cx cy = 0 ∨ trnS ax ay bx by' cx cy = 1 := sgn_three _

theorem rturn_from (nax : Bool) (oax : Option Addr) (kax : Nat) (lax : List Nat) (Xax : Int) (nay : Bool) (oay : Option Addr) (kay : Nat) (lay : List Nat) (Xay : Int) (nbx : Bool) (obx : Option Addr) (kbx : Nat) (lbx : List Nat) (Xbx : Int) (nby : Bool) (oby : Option Addr) (kby : Nat) (lby : List Nat) (Xby : Int) (ncx : Bool) (ocx : Option Addr) (kcx : Nat) (lcx : List Nat) (Xcx : Int) (ncy : Bool) (ocy : Option Addr) (kcy : Nat) (lcy : List Nat) (Xcy : Int) (W w : World) (hax : Bg W nax (.slice oax lax.length kax) lax Xax) (sax : Xax.natAbs < 2 ^ 200) (hay : Bg W nay (.slice oay lay.length kay) lay Xay) (say : Xay.natAbs < 2 ^ 200) (hbx : Bg W nbx (.slice obx lbx.length kbx) lbx Xbx) (sbx : Xbx.natAbs < 2 ^ 200) (hby : Bg W nby (.slice oby lby.length kby) lby Xby) (sby : Xby.natAbs < 2 ^ 200) (hcx : Bg W ncx (.slice ocx lcx.length kcx) lcx Xcx) (scx : Xcx.natAbs < 2 ^ 200) (hcy : Bg W ncy (.slice ocy lcy.length kcy) lcy Xcy) (scy : Xcy.natAbs < 2 ^ 200) (hB : Below W.heap.size W w) :
    Calls Tryz.prog 21 #[.agg #[.bool nax, .slice oax lax.length kax, .bool nay, .slice oay lay.length kay], .agg #[.bool nbx, .slice obx lbx.length kbx, .bool nby, .slice oby lby.length kby], .agg #[.bool ncx, .slice ocx lcx.length kcx, .bool ncy, .slice ocy lcy.length kcy]] w fun e w' => Below w.heap.size w w' ∧ e = .returned (.int .i64 (trnS Xax Xay Xbx Xby Xcx Xcy)) :=
  rturn_any nax _ _ lax Xax nay _ _ lay Xay nbx _ _ lbx Xbx nby _ _ lby Xby ncx _ _ lcx Xcx ncy _ _ lcy Xcy w (hax.kept hB) sax (hay.kept hB) say (hbx.kept hB) sbx (hby.kept hB) sby (hcx.kept hB) scx (hcy.kept hB) scy

/-- The reference's answer about two segments. -/
def meetP (ax ay bx by' cx cy dx dy : Int) : Int :=
  if trnS ax ay bx by' cx cy * trnS ax ay bx by' dx dy = -1 ∧ trnS cx cy dx dy ax ay * trnS cx cy dx dy bx by' = -1 then 2
  else if onP ax ay bx by' cx cy || (onP ax ay bx by' dx dy || (onP cx cy dx dy ax ay || onP cx cy dx dy bx by')) then 1 else 0

set_option maxHeartbeats 8000000 in
set_option maxRecDepth 100000 in
theorem rmeet_any (nax : Bool) (oax : Option Addr) (kax : Nat) (lax : List Nat) (Xax : Int) (nay : Bool) (oay : Option Addr) (kay : Nat) (lay : List Nat) (Xay : Int) (nbx : Bool) (obx : Option Addr) (kbx : Nat) (lbx : List Nat) (Xbx : Int) (nby : Bool) (oby : Option Addr) (kby : Nat) (lby : List Nat) (Xby : Int) (ncx : Bool) (ocx : Option Addr) (kcx : Nat) (lcx : List Nat) (Xcx : Int) (ncy : Bool) (ocy : Option Addr) (kcy : Nat) (lcy : List Nat) (Xcy : Int) (ndx : Bool) (odx : Option Addr) (kdx : Nat) (ldx : List Nat) (Xdx : Int) (ndy : Bool) (ody : Option Addr) (kdy : Nat) (ldy : List Nat) (Xdy : Int) (w : World) (hax : Bg w nax (.slice oax lax.length kax) lax Xax) (sax : Xax.natAbs < 2 ^ 200) (hay : Bg w nay (.slice oay lay.length kay) lay Xay) (say : Xay.natAbs < 2 ^ 200) (hbx : Bg w nbx (.slice obx lbx.length kbx) lbx Xbx) (sbx : Xbx.natAbs < 2 ^ 200) (hby : Bg w nby (.slice oby lby.length kby) lby Xby) (sby : Xby.natAbs < 2 ^ 200) (hcx : Bg w ncx (.slice ocx lcx.length kcx) lcx Xcx) (scx : Xcx.natAbs < 2 ^ 200) (hcy : Bg w ncy (.slice ocy lcy.length kcy) lcy Xcy) (scy : Xcy.natAbs < 2 ^ 200) (hdx : Bg w ndx (.slice odx ldx.length kdx) ldx Xdx) (sdx : Xdx.natAbs < 2 ^ 200) (hdy : Bg w ndy (.slice ody ldy.length kdy) ldy Xdy) (sdy : Xdy.natAbs < 2 ^ 200) :
    Calls Tryz.prog 26 #[.agg #[.bool nax, .slice oax lax.length kax, .bool nay, .slice oay lay.length kay], .agg #[.bool nbx, .slice obx lbx.length kbx, .bool nby, .slice oby lby.length kby], .agg #[.bool ncx, .slice ocx lcx.length kcx, .bool ncy, .slice ocy lcy.length kcy], .agg #[.bool ndx, .slice odx ldx.length kdx, .bool ndy, .slice ody ldy.length kdy]] w fun e w' => Below w.heap.size w w' ∧ e = .returned (.int .i64 (meetP Xax Xay Xbx Xby Xcx Xcy Xdx Xdy)) := by
  obtain ⟨t1, ht1⟩ : ∃ t, t = trnS Xax Xay Xbx Xby Xcx Xcy := ⟨_, rfl⟩
  obtain ⟨t2, ht2⟩ : ∃ t, t = trnS Xax Xay Xbx Xby Xdx Xdy := ⟨_, rfl⟩
  obtain ⟨t3, ht3⟩ : ∃ t, t = trnS Xcx Xcy Xdx Xdy Xax Xay := ⟨_, rfl⟩
  obtain ⟨t4, ht4⟩ : ∃ t, t = trnS Xcx Xcy Xdx Xdy Xbx Xby := ⟨_, rfl⟩
  obtain ⟨b1, hb1⟩ : ∃ b, b = onP Xax Xay Xbx Xby Xcx Xcy := ⟨_, rfl⟩
  obtain ⟨b2, hb2⟩ : ∃ b, b = onP Xax Xay Xbx Xby Xdx Xdy := ⟨_, rfl⟩
  obtain ⟨b3, hb3⟩ : ∃ b, b = onP Xcx Xcy Xdx Xdy Xax Xay := ⟨_, rfl⟩
  obtain ⟨b4, hb4⟩ : ∃ b, b = onP Xcx Xcy Xdx Xdy Xbx Xby := ⟨_, rfl⟩
  have hr : meetP Xax Xay Xbx Xby Xcx Xcy Xdx Xdy = if t1 * t2 = -1 ∧ t3 * t4 = -1 then 2 else if b1 || (b2 || (b3 || b4)) then 1 else 0 := by
    unfold meetP
    rw [ht1, ht2, ht3, ht4, hb1, hb2, hb3, hb4]
  rw [hr]
  have HT1 : Hid (t1 = trnS Xax Xay Xbx Xby Xcx Xcy) := ht1
  have HT2 : Hid (t2 = trnS Xax Xay Xbx Xby Xdx Xdy) := ht2
  have HT3 : Hid (t3 = trnS Xcx Xcy Xdx Xdy Xax Xay) := ht3
  have HT4 : Hid (t4 = trnS Xcx Xcy Xdx Xdy Xbx Xby) := ht4
  have HB1 : Hid (b1 = onP Xax Xay Xbx Xby Xcx Xcy) := hb1
  have HB2 : Hid (b2 = onP Xax Xay Xbx Xby Xdx Xdy) := hb2
  have HB3 : Hid (b3 = onP Xcx Xcy Xdx Xdy Xax Xay) := hb3
  have HB4 : Hid (b4 = onP Xcx Xcy Xdx Xdy Xbx Xby) := hb4
  have w12 : IntKind.i64.wrap (t1 * t2) = t1 * t2 := wrap_three2 (ht1 ▸ trnS_three ..) (ht2 ▸ trnS_three ..)
  have w34 : IntKind.i64.wrap (t3 * t4) = t3 * t4 := wrap_three2 (ht3 ▸ trnS_three ..) (ht4 ▸ trnS_three ..)
  clear ht1 ht2 ht3 ht4 hb1 hb2 hb3 hb4 hr
  go_enter Tryz.func26, Tryz.ntmps26
  go_upto_region 1 with fail
  generalize hW : World.alloc (World.alloc (World.alloc (World.alloc w _) _) _) _ = W
  have hWs : W.heap.size = w.heap.size + 4 := by subst hW; simp
  have hw : Below w.heap.size w W := by
    subst hW
    exact (((((Below.refl _ w).alloc (Nat.le_refl _) _).alloc (by simp) _).alloc (by simp; omega) _).alloc (by simp; omega) _)
  have KS : ∀ w', Below W.heap.size W w' → (w'.cell? ⟨w.heap.size, 0, none⟩ = some (.bool nax) ∧ w'.cell? ⟨w.heap.size, 1, none⟩ = some (.slice oax lax.length kax) ∧ w'.cell? ⟨w.heap.size, 2, none⟩ = some (.bool nay) ∧ w'.cell? ⟨w.heap.size, 3, none⟩ = some (.slice oay lay.length kay) ∧ w'.cell? ⟨w.heap.size + 1, 0, none⟩ = some (.bool nbx) ∧ w'.cell? ⟨w.heap.size + 1, 1, none⟩ = some (.slice obx lbx.length kbx) ∧ w'.cell? ⟨w.heap.size + 1, 2, none⟩ = some (.bool nby) ∧ w'.cell? ⟨w.heap.size + 1, 3, none⟩ = some (.slice oby lby.length kby) ∧ w'.cell? ⟨w.heap.size + 1 + 1, 0, none⟩ = some (.bool ncx) ∧ w'.cell? ⟨w.heap.size + 1 + 1, 1, none⟩ = some (.slice ocx lcx.length kcx) ∧ w'.cell? ⟨w.heap.size + 1 + 1, 2, none⟩ = some (.bool ncy) ∧ w'.cell? ⟨w.heap.size + 1 + 1, 3, none⟩ = some (.slice ocy lcy.length kcy) ∧ w'.cell? ⟨w.heap.size + 1 + 1 + 1, 0, none⟩ = some (.bool ndx) ∧ w'.cell? ⟨w.heap.size + 1 + 1 + 1, 1, none⟩ = some (.slice odx ldx.length kdx) ∧ w'.cell? ⟨w.heap.size + 1 + 1 + 1, 2, none⟩ = some (.bool ndy) ∧ w'.cell? ⟨w.heap.size + 1 + 1 + 1, 3, none⟩ = some (.slice ody ldy.length kdy)) ∧ Below W.heap.size W w' := by
    intro w' hb
    obtain ⟨hc, _⟩ := bcell hb
    refine ⟨⟨?_, ?_, ?_, ?_, ?_, ?_, ?_, ?_, ?_, ?_, ?_, ?_, ?_, ?_, ?_, ?_⟩, hb⟩
    all_goals (rw [hc _ _ (by omega)]; subst hW; simp [go_sem])
  clear hW hWs
  go_cut [9] (fun v9 wc => v9 = .int .i64 (t1 * t2) ∧ Below W.heap.size W wc)
  case first =>
    go_region_held3 (fun w' => (w'.cell? ⟨w.heap.size, 0, none⟩ = some (.bool nax) ∧ w'.cell? ⟨w.heap.size, 1, none⟩ = some (.slice oax lax.length kax) ∧ w'.cell? ⟨w.heap.size, 2, none⟩ = some (.bool nay) ∧ w'.cell? ⟨w.heap.size, 3, none⟩ = some (.slice oay lay.length kay) ∧ w'.cell? ⟨w.heap.size + 1, 0, none⟩ = some (.bool nbx) ∧ w'.cell? ⟨w.heap.size + 1, 1, none⟩ = some (.slice obx lbx.length kbx) ∧ w'.cell? ⟨w.heap.size + 1, 2, none⟩ = some (.bool nby) ∧ w'.cell? ⟨w.heap.size + 1, 3, none⟩ = some (.slice oby lby.length kby) ∧ w'.cell? ⟨w.heap.size + 1 + 1, 0, none⟩ = some (.bool ncx) ∧ w'.cell? ⟨w.heap.size + 1 + 1, 1, none⟩ = some (.slice ocx lcx.length kcx) ∧ w'.cell? ⟨w.heap.size + 1 + 1, 2, none⟩ = some (.bool ncy) ∧ w'.cell? ⟨w.heap.size + 1 + 1, 3, none⟩ = some (.slice ocy lcy.length kcy) ∧ w'.cell? ⟨w.heap.size + 1 + 1 + 1, 0, none⟩ = some (.bool ndx) ∧ w'.cell? ⟨w.heap.size + 1 + 1 + 1, 1, none⟩ = some (.slice odx ldx.length kdx) ∧ w'.cell? ⟨w.heap.size + 1 + 1 + 1, 2, none⟩ = some (.bool ndy) ∧ w'.cell? ⟨w.heap.size + 1 + 1 + 1, 3, none⟩ = some (.slice ody ldy.length kdy)) ∧ Below W.heap.size W w') (first | exact KS _ (Below.refl _ _).drew | (go_split_ands; first | exact KS _ (by assumption) | exact KS _ (Below.drew (by assumption)))) (first | (go_at_call 21; have g1 := hb1; go_must (refine (rturn_from nax _ _ lax Xax nay _ _ lay Xay nbx _ _ lbx Xbx nby _ _ lby Xby ndx _ _ ldx Xdx ndy _ _ ldy Xdy w _ hax sax hay say hbx sbx hby sby hdx sdx hdy sdy (hw.trans (Below.mono (B := W.heap.size) ?_ hw.size))).mono ?_; (focus (first | exact (Below.refl _ _).drew | (go_split_ands; assumption))); rintro e w2 ⟨hb2, he2⟩; rw [← HT2.out] at he2; subst he2; have hW2 : Below W.heap.size W w2 := below_step hb2 (by first | exact (Below.refl _ _).drew | (go_split_ands; assumption)))) | (go_at_call 21; go_must (refine (rturn_from nax _ _ lax Xax nay _ _ lay Xay nbx _ _ lbx Xbx nby _ _ lby Xby ncx _ _ lcx Xcx ncy _ _ lcy Xcy w _ hax sax hay say hbx sbx hby sby hcx scx hcy scy (hw.trans (Below.mono (B := W.heap.size) ?_ hw.size))).mono ?_; (focus (first | exact (Below.refl _ _).drew | (go_split_ands; assumption))); rintro e w1 ⟨hb1, he1⟩; rw [← HT1.out] at he1; subst he1; have hW1 : Below W.heap.size W w1 := below_step hb1 (by first | exact (Below.refl _ _).drew | (go_split_ands; assumption)))))
    all_goals
      go_wp2_with fail
      go_meet
      exact ⟨rfl, by assumption⟩
  case rest =>
    obtain ⟨hv9, hbc⟩ := hcut
    subst hv9
    have hwc : Below w.heap.size w wc := hw.trans (hbc.mono hw.size)
    have KT : ∀ w', Below wc.heap.size wc w' → (w'.cell? ⟨w.heap.size, 0, none⟩ = some (.bool nax) ∧ w'.cell? ⟨w.heap.size, 1, none⟩ = some (.slice oax lax.length kax) ∧ w'.cell? ⟨w.heap.size, 2, none⟩ = some (.bool nay) ∧ w'.cell? ⟨w.heap.size, 3, none⟩ = some (.slice oay lay.length kay) ∧ w'.cell? ⟨w.heap.size + 1, 0, none⟩ = some (.bool nbx) ∧ w'.cell? ⟨w.heap.size + 1, 1, none⟩ = some (.slice obx lbx.length kbx) ∧ w'.cell? ⟨w.heap.size + 1, 2, none⟩ = some (.bool nby) ∧ w'.cell? ⟨w.heap.size + 1, 3, none⟩ = some (.slice oby lby.length kby) ∧ w'.cell? ⟨w.heap.size + 1 + 1, 0, none⟩ = some (.bool ncx) ∧ w'.cell? ⟨w.heap.size + 1 + 1, 1, none⟩ = some (.slice ocx lcx.length kcx) ∧ w'.cell? ⟨w.heap.size + 1 + 1, 2, none⟩ = some (.bool ncy) ∧ w'.cell? ⟨w.heap.size + 1 + 1, 3, none⟩ = some (.slice ocy lcy.length kcy) ∧ w'.cell? ⟨w.heap.size + 1 + 1 + 1, 0, none⟩ = some (.bool ndx) ∧ w'.cell? ⟨w.heap.size + 1 + 1 + 1, 1, none⟩ = some (.slice odx ldx.length kdx) ∧ w'.cell? ⟨w.heap.size + 1 + 1 + 1, 2, none⟩ = some (.bool ndy) ∧ w'.cell? ⟨w.heap.size + 1 + 1 + 1, 3, none⟩ = some (.slice ody ldy.length kdy)) ∧ Below wc.heap.size wc w' := fun w' h => ⟨(KS w' (below_step h hbc)).1, h⟩
    clear KS
    go_upto_region 2 with fail
    go_cut [10] (fun v10 wd => v10 = .int .i64 (t3 * t4) ∧ Below wc.heap.size wc wd)
    case first =>
      go_region_held3 (fun w' => (w'.cell? ⟨w.heap.size, 0, none⟩ = some (.bool nax) ∧ w'.cell? ⟨w.heap.size, 1, none⟩ = some (.slice oax lax.length kax) ∧ w'.cell? ⟨w.heap.size, 2, none⟩ = some (.bool nay) ∧ w'.cell? ⟨w.heap.size, 3, none⟩ = some (.slice oay lay.length kay) ∧ w'.cell? ⟨w.heap.size + 1, 0, none⟩ = some (.bool nbx) ∧ w'.cell? ⟨w.heap.size + 1, 1, none⟩ = some (.slice obx lbx.length kbx) ∧ w'.cell? ⟨w.heap.size + 1, 2, none⟩ = some (.bool nby) ∧ w'.cell? ⟨w.heap.size + 1, 3, none⟩ = some (.slice oby lby.length kby) ∧ w'.cell? ⟨w.heap.size + 1 + 1, 0, none⟩ = some (.bool ncx) ∧ w'.cell? ⟨w.heap.size + 1 + 1, 1, none⟩ = some (.slice ocx lcx.length kcx) ∧ w'.cell? ⟨w.heap.size + 1 + 1, 2, none⟩ = some (.bool ncy) ∧ w'.cell? ⟨w.heap.size + 1 + 1, 3, none⟩ = some (.slice ocy lcy.length kcy) ∧ w'.cell? ⟨w.heap.size + 1 + 1 + 1, 0, none⟩ = some (.bool ndx) ∧ w'.cell? ⟨w.heap.size + 1 + 1 + 1, 1, none⟩ = some (.slice odx ldx.length kdx) ∧ w'.cell? ⟨w.heap.size + 1 + 1 + 1, 2, none⟩ = some (.bool ndy) ∧ w'.cell? ⟨w.heap.size + 1 + 1 + 1, 3, none⟩ = some (.slice ody ldy.length kdy)) ∧ Below wc.heap.size wc w') (first | exact KT _ (Below.refl _ _).drew | (go_split_ands; first | exact KT _ (by assumption) | exact KT _ (Below.drew (by assumption)))) (first | (go_at_call 21; have g1 := hb3; go_must (refine (rturn_from ncx _ _ lcx Xcx ncy _ _ lcy Xcy ndx _ _ ldx Xdx ndy _ _ ldy Xdy nbx _ _ lbx Xbx nby _ _ lby Xby w _ hcx scx hcy scy hdx sdx hdy sdy hbx sbx hby sby (hwc.trans (Below.mono (B := wc.heap.size) ?_ hwc.size))).mono ?_; (focus (first | exact (Below.refl _ _).drew | (go_split_ands; assumption))); rintro e w4 ⟨hb4, he4⟩; rw [← HT4.out] at he4; subst he4; have hW4 : Below wc.heap.size wc w4 := below_step hb4 (by first | exact (Below.refl _ _).drew | (go_split_ands; assumption)))) | (go_at_call 21; go_must (refine (rturn_from ncx _ _ lcx Xcx ncy _ _ lcy Xcy ndx _ _ ldx Xdx ndy _ _ ldy Xdy nax _ _ lax Xax nay _ _ lay Xay w _ hcx scx hcy scy hdx sdx hdy sdy hax sax hay say (hwc.trans (Below.mono (B := wc.heap.size) ?_ hwc.size))).mono ?_; (focus (first | exact (Below.refl _ _).drew | (go_split_ands; assumption))); rintro e w3 ⟨hb3, he3⟩; rw [← HT3.out] at he3; subst he3; have hW3 : Below wc.heap.size wc w3 := below_step hb3 (by first | exact (Below.refl _ _).drew | (go_split_ands; assumption)))))
      all_goals
        go_wp2_with fail
        go_meet
        exact ⟨rfl, by assumption⟩
    case rest =>
      obtain ⟨hv10, hbd⟩ := hcut
      subst hv10
      have hwd : Below w.heap.size w wc := hwc.trans (hbd.mono hwc.size)
      have KU : ∀ w', Below wc.heap.size wc w' → (w'.cell? ⟨w.heap.size, 0, none⟩ = some (.bool nax) ∧ w'.cell? ⟨w.heap.size, 1, none⟩ = some (.slice oax lax.length kax) ∧ w'.cell? ⟨w.heap.size, 2, none⟩ = some (.bool nay) ∧ w'.cell? ⟨w.heap.size, 3, none⟩ = some (.slice oay lay.length kay) ∧ w'.cell? ⟨w.heap.size + 1, 0, none⟩ = some (.bool nbx) ∧ w'.cell? ⟨w.heap.size + 1, 1, none⟩ = some (.slice obx lbx.length kbx) ∧ w'.cell? ⟨w.heap.size + 1, 2, none⟩ = some (.bool nby) ∧ w'.cell? ⟨w.heap.size + 1, 3, none⟩ = some (.slice oby lby.length kby) ∧ w'.cell? ⟨w.heap.size + 1 + 1, 0, none⟩ = some (.bool ncx) ∧ w'.cell? ⟨w.heap.size + 1 + 1, 1, none⟩ = some (.slice ocx lcx.length kcx) ∧ w'.cell? ⟨w.heap.size + 1 + 1, 2, none⟩ = some (.bool ncy) ∧ w'.cell? ⟨w.heap.size + 1 + 1, 3, none⟩ = some (.slice ocy lcy.length kcy) ∧ w'.cell? ⟨w.heap.size + 1 + 1 + 1, 0, none⟩ = some (.bool ndx) ∧ w'.cell? ⟨w.heap.size + 1 + 1 + 1, 1, none⟩ = some (.slice odx ldx.length kdx) ∧ w'.cell? ⟨w.heap.size + 1 + 1 + 1, 2, none⟩ = some (.bool ndy) ∧ w'.cell? ⟨w.heap.size + 1 + 1 + 1, 3, none⟩ = some (.slice ody ldy.length kdy)) := fun w' h => (KT w' (below_step h hbd)).1
      clear KT
      obtain ⟨p0, p1, p2, p3, p4, p5, p6, p7, p8, p9, p10, p11, p12, p13, p14, p15⟩ := KU wc (Below.refl _ _)
      go_wp2_with (first
      | (go_at_call 47; have g1 := hb7; go_must (refine (on_any ncx _ _ lcx Xcx ncy _ _ lcy Xcy ndx _ _ ldx Xdx ndy _ _ ldy Xdy nbx _ _ lbx Xbx nby _ _ lby Xby _ (hcx.kept (hwd.trans ((below_step hb7 (below_step hb6 hb5)).mono hwd.size))) scx (hcy.kept (hwd.trans ((below_step hb7 (below_step hb6 hb5)).mono hwd.size))) scy (hdx.kept (hwd.trans ((below_step hb7 (below_step hb6 hb5)).mono hwd.size))) sdx (hdy.kept (hwd.trans ((below_step hb7 (below_step hb6 hb5)).mono hwd.size))) sdy (hbx.kept (hwd.trans ((below_step hb7 (below_step hb6 hb5)).mono hwd.size))) sbx (hby.kept (hwd.trans ((below_step hb7 (below_step hb6 hb5)).mono hwd.size))) sby).mono ?_; rintro e w8 ⟨hb8, he8⟩; rw [← HB4.out] at he8; subst he8; obtain ⟨u8x0, u8x1, u8x2, u8x3, u8x4, u8x5, u8x6, u8x7, u8x8, u8x9, u8x10, u8x11, u8x12, u8x13, u8x14, u8x15⟩ := KU w8 (below_step hb8 (below_step hb7 (below_step hb6 hb5)))))
      | (go_at_call 47; have g1 := hb6; go_must (refine (on_any ncx _ _ lcx Xcx ncy _ _ lcy Xcy ndx _ _ ldx Xdx ndy _ _ ldy Xdy nax _ _ lax Xax nay _ _ lay Xay _ (hcx.kept (hwd.trans ((below_step hb6 hb5).mono hwd.size))) scx (hcy.kept (hwd.trans ((below_step hb6 hb5).mono hwd.size))) scy (hdx.kept (hwd.trans ((below_step hb6 hb5).mono hwd.size))) sdx (hdy.kept (hwd.trans ((below_step hb6 hb5).mono hwd.size))) sdy (hax.kept (hwd.trans ((below_step hb6 hb5).mono hwd.size))) sax (hay.kept (hwd.trans ((below_step hb6 hb5).mono hwd.size))) say).mono ?_; rintro e w7 ⟨hb7, he7⟩; rw [← HB3.out] at he7; subst he7; obtain ⟨u7x0, u7x1, u7x2, u7x3, u7x4, u7x5, u7x6, u7x7, u7x8, u7x9, u7x10, u7x11, u7x12, u7x13, u7x14, u7x15⟩ := KU w7 (below_step hb7 (below_step hb6 hb5))))
      | (go_at_call 47; have g1 := hb5; go_must (refine (on_any nax _ _ lax Xax nay _ _ lay Xay nbx _ _ lbx Xbx nby _ _ lby Xby ndx _ _ ldx Xdx ndy _ _ ldy Xdy _ (hax.kept (hwd.trans (hb5.mono hwd.size))) sax (hay.kept (hwd.trans (hb5.mono hwd.size))) say (hbx.kept (hwd.trans (hb5.mono hwd.size))) sbx (hby.kept (hwd.trans (hb5.mono hwd.size))) sby (hdx.kept (hwd.trans (hb5.mono hwd.size))) sdx (hdy.kept (hwd.trans (hb5.mono hwd.size))) sdy).mono ?_; rintro e w6 ⟨hb6, he6⟩; rw [← HB2.out] at he6; subst he6; obtain ⟨u6x0, u6x1, u6x2, u6x3, u6x4, u6x5, u6x6, u6x7, u6x8, u6x9, u6x10, u6x11, u6x12, u6x13, u6x14, u6x15⟩ := KU w6 (below_step hb6 hb5)))
      | (go_at_call 47; go_must (refine (on_any nax _ _ lax Xax nay _ _ lay Xay nbx _ _ lbx Xbx nby _ _ lby Xby ncx _ _ lcx Xcx ncy _ _ lcy Xcy _ (hax.kept hwd) sax (hay.kept hwd) say (hbx.kept hwd) sbx (hby.kept hwd) sby (hcx.kept hwd) scx (hcy.kept hwd) scy).mono ?_; rintro e w5 ⟨hb5, he5⟩; rw [← HB1.out] at he5; subst he5; obtain ⟨u5x0, u5x1, u5x2, u5x3, u5x4, u5x5, u5x6, u5x7, u5x8, u5x9, u5x10, u5x11, u5x12, u5x13, u5x14, u5x15⟩ := KU w5 hb5)))
      all_goals
        go_ret
        refine ⟨by first | exact (hwd.trans ((below_step hb8 (below_step hb7 (below_step hb6 hb5))).mono hwd.size)) | exact hwd, ?_⟩
        clear KU
        simp_all

end Go.Proofs.YtbjjkfmdkmbcfaaGreat
