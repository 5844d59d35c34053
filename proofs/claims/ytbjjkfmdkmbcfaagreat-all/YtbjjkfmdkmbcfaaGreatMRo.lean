import Derived.Test.YtbjjkfmdkmbcfaaGreatMRm
namespace Go.Proofs.YtbjjkfmdkmbcfaaGreat
open Go.RowKit
open PlLv

attribute [local go_sem ↓] Go.wp_at_zero Go.wp_at_succ

theorem lt_P {n e q : Nat} (h : n < 2 ^ e) (he : e ≤ 32 * q) : n < P q := by
  rw [P_two]
  exact Nat.lt_of_lt_of_le h (Nat.pow_le_pow_right (by decide) he)

theorem small_of {x : Int} {e : Nat} (h : x.natAbs < 2 ^ e) (he : e ≤ 6400) : Small x := lt_P (q := 200) h he

theorem small200 {x : Int} (h : x.natAbs < 2 ^ 200) : Small x := small_of h (by decide)

theorem lt_sub {x y : Int} {e f : Nat} (h : x.natAbs < 2 ^ e) (h2 : y.natAbs < 2 ^ e) (hf : f = e + 1) : (x - y).natAbs < 2 ^ f := by
  rw [hf, Nat.pow_succ]
  omega

theorem lt_mul {x y : Int} {e f : Nat} (h : x.natAbs < 2 ^ e) (h2 : y.natAbs < 2 ^ e) (hf : f = e + e) : (x * y).natAbs < 2 ^ f := by
  rw [hf, Nat.pow_add, Int.natAbs_mul]
  exact Nat.mul_lt_mul'' h h2

theorem small_sub {x y : Int} (h : x.natAbs < 2 ^ 200) (h2 : y.natAbs < 2 ^ 200) : Small (x - y) := small_of (lt_sub h h2 (f := 201) rfl) (by decide)

theorem bprod_lt {a b c d : Int} (ha : a.natAbs < 2 ^ 200) (hb : b.natAbs < 2 ^ 200) (hc : c.natAbs < 2 ^ 200) (hd : d.natAbs < 2 ^ 200) : ((a - b) * (c - d)).natAbs < 2 ^ 402 :=
  lt_mul (e := 201) (f := 402) (lt_sub (e := 200) (f := 201) ha hb rfl) (lt_sub (e := 200) (f := 201) hc hd rfl) rfl

set_option maxHeartbeats 4000000 in
set_option maxRecDepth 100000 in
theorem rturn_any (nax : Bool) (oax : Option Addr) (cax : Nat) (lax : List Nat) (Xax : Int) (nay : Bool) (oay : Option Addr) (cay : Nat) (lay : List Nat) (Xay : Int) (nbx : Bool) (obx : Option Addr) (cbx : Nat) (lbx : List Nat) (Xbx : Int) (nby : Bool) (oby : Option Addr) (cby : Nat) (lby : List Nat) (Xby : Int) (ncx : Bool) (ocx : Option Addr) (ccx : Nat) (lcx : List Nat) (Xcx : Int) (ncy : Bool) (ocy : Option Addr) (ccy : Nat) (lcy : List Nat) (Xcy : Int) (w : World) (hax : Bg w nax (.slice oax lax.length cax) lax Xax) (sax : Xax.natAbs < 2 ^ 200) (hay : Bg w nay (.slice oay lay.length cay) lay Xay) (say : Xay.natAbs < 2 ^ 200) (hbx : Bg w nbx (.slice obx lbx.length cbx) lbx Xbx) (sbx : Xbx.natAbs < 2 ^ 200) (hby : Bg w nby (.slice oby lby.length cby) lby Xby) (sby : Xby.natAbs < 2 ^ 200) (hcx : Bg w ncx (.slice ocx lcx.length ccx) lcx Xcx) (scx : Xcx.natAbs < 2 ^ 200) (hcy : Bg w ncy (.slice ocy lcy.length ccy) lcy Xcy) (scy : Xcy.natAbs < 2 ^ 200) :
    Calls Tryz.prog 21 #[.agg #[.bool nax, .slice oax lax.length cax, .bool nay, .slice oay lay.length cay], .agg #[.bool nbx, .slice obx lbx.length cbx, .bool nby, .slice oby lby.length cby], .agg #[.bool ncx, .slice ocx lcx.length ccx, .bool ncy, .slice ocy lcy.length ccy]] w fun e w' => Below w.heap.size w w' ∧ e = .returned (.int .i64 (PlRd.sgn ((Xbx - Xax) * (Xcy - Xay) - (Xby - Xay) * (Xcx - Xax)))) := by
  go_enter Tryz.func21, Tryz.ntmps21
  go_wp2
  generalize hW : World.alloc (World.alloc (World.alloc w _) _) _ = W
  have hWs : W.heap.size = w.heap.size + 3 := by subst hW; simp
  have hw : Below w.heap.size w W := by
    subst hW
    exact ((((Below.refl _ w).alloc (Nat.le_refl _) _).alloc (by simp) _).alloc (by simp; omega) _)
  have KS : ∀ w', Below W.heap.size W w' → (w'.cell? ⟨w.heap.size, 0, none⟩ = some (.bool nax) ∧ w'.cell? ⟨w.heap.size, 1, none⟩ = some (.slice oax lax.length cax) ∧ w'.cell? ⟨w.heap.size, 2, none⟩ = some (.bool nay) ∧ w'.cell? ⟨w.heap.size, 3, none⟩ = some (.slice oay lay.length cay) ∧ w'.cell? ⟨w.heap.size + 1, 0, none⟩ = some (.bool nbx) ∧ w'.cell? ⟨w.heap.size + 1, 1, none⟩ = some (.slice obx lbx.length cbx) ∧ w'.cell? ⟨w.heap.size + 1, 2, none⟩ = some (.bool nby) ∧ w'.cell? ⟨w.heap.size + 1, 3, none⟩ = some (.slice oby lby.length cby) ∧ w'.cell? ⟨w.heap.size + 1 + 1, 0, none⟩ = some (.bool ncx) ∧ w'.cell? ⟨w.heap.size + 1 + 1, 1, none⟩ = some (.slice ocx lcx.length ccx) ∧ w'.cell? ⟨w.heap.size + 1 + 1, 2, none⟩ = some (.bool ncy) ∧ w'.cell? ⟨w.heap.size + 1 + 1, 3, none⟩ = some (.slice ocy lcy.length ccy)) ∧ Below W.heap.size W w' := by
    intro w' hb
    obtain ⟨hc, _⟩ := bcell hb
    refine ⟨⟨?_, ?_, ?_, ?_, ?_, ?_, ?_, ?_, ?_, ?_, ?_, ?_⟩, hb⟩
    all_goals (rw [hc _ _ (by omega)]; subst hW; simp [go_sem])
  clear hW hWs
  go_cut [7] (fun v7 wc => ∃ r nc vc lc, v7 = .pointer (some ⟨r, 0, none⟩) ∧ wc.cell? ⟨r, 0, none⟩ = some (.bool nc) ∧ wc.cell? ⟨r, 1, none⟩ = some vc ∧ Bg wc nc vc lc ((Xbx - Xax) * (Xcy - Xay)) ∧ W.heap.size ≤ r ∧ r < wc.heap.size ∧ Below W.heap.size W wc)
  case first =>
    go_region_held3 (fun w' => (w'.cell? ⟨w.heap.size, 0, none⟩ = some (.bool nax) ∧ w'.cell? ⟨w.heap.size, 1, none⟩ = some (.slice oax lax.length cax) ∧ w'.cell? ⟨w.heap.size, 2, none⟩ = some (.bool nay) ∧ w'.cell? ⟨w.heap.size, 3, none⟩ = some (.slice oay lay.length cay) ∧ w'.cell? ⟨w.heap.size + 1, 0, none⟩ = some (.bool nbx) ∧ w'.cell? ⟨w.heap.size + 1, 1, none⟩ = some (.slice obx lbx.length cbx) ∧ w'.cell? ⟨w.heap.size + 1, 2, none⟩ = some (.bool nby) ∧ w'.cell? ⟨w.heap.size + 1, 3, none⟩ = some (.slice oby lby.length cby) ∧ w'.cell? ⟨w.heap.size + 1 + 1, 0, none⟩ = some (.bool ncx) ∧ w'.cell? ⟨w.heap.size + 1 + 1, 1, none⟩ = some (.slice ocx lcx.length ccx) ∧ w'.cell? ⟨w.heap.size + 1 + 1, 2, none⟩ = some (.bool ncy) ∧ w'.cell? ⟨w.heap.size + 1 + 1, 3, none⟩ = some (.slice ocy lcy.length ccy)) ∧ Below W.heap.size W w') (first | exact KS _ (Below.refl _ _).drew | (go_split_ands; first | exact KS _ hW3 | exact KS _ (hW3.alloc hW3.size _) | exact KS _ ((hW3.setCell (by first | (simp; done) | (simp; omega)) _).setCell (by first | (simp; done) | (simp; omega)) _) | exact KS _ (below_step hb3 (by assumption)) | exact KS _ (below_step hb2 (by assumption)) | exact KS _ (below_step hb1 (by assumption)) | exact KS _ (Below.alloc (by assumption) (Below.size (by assumption)) _) | exact KS _ (Below.setCell (Below.setCell (by assumption) (by first | (simp; done) | (simp; omega)) _) (by first | (simp; done) | (simp; omega)) _) | exact KS _ (Below.drew (by assumption)) | exact KS _ (by assumption))) (first | (go_at_call 23; have g1 := hb1; go_must (refine (less_bg ncy nay _ _ lcy lay Xcy Xay _ (hcy.kept (hw.trans (Below.mono (B := W.heap.size) ?_ hw.size))) (hay.kept (hw.trans (Below.mono (B := W.heap.size) ?_ hw.size))) (small200 scy) (small200 say)).mono ?_; (focus (first | exact (Below.refl _ _).drew | (go_split_ands; assumption))); (focus (first | exact (Below.refl _ _).drew | (go_split_ands; assumption))); rintro e w2 ⟨m2, v2, k2, rfl, hg2, hb2⟩; obtain ⟨a2, d2, hv2⟩ := bg_form hg2; subst hv2; have kz2 := hb2.size; (try simp at kz2); have hW2 : Below W.heap.size W w2 := below_step hb2 (by first | exact (Below.refl _ _).drew | (go_split_ands; assumption)))) | (go_at_call 23; go_must (refine (less_bg nbx nax _ _ lbx lax Xbx Xax _ (hbx.kept (hw.trans (Below.mono (B := W.heap.size) ?_ hw.size))) (hax.kept (hw.trans (Below.mono (B := W.heap.size) ?_ hw.size))) (small200 sbx) (small200 sax)).mono ?_; (focus (first | exact (Below.refl _ _).drew | (go_split_ands; assumption))); (focus (first | exact (Below.refl _ _).drew | (go_split_ands; assumption))); rintro e w1 ⟨m1, v1, k1, rfl, hg1, hb1⟩; obtain ⟨a1, d1, hv1⟩ := bg_form hg1; subst hv1; have kz1 := hb1.size; (try simp at kz1); have hW1 : Below W.heap.size W w1 := below_step hb1 (by first | exact (Below.refl _ _).drew | (go_split_ands; assumption)))) | (go_at_call 45; go_must (refine (times_bg m1 m2 _ _ k1 k2 _ _ _ ?_ ?_ (small_sub sbx sax) (small_sub scy say)).mono ?_; (focus first | exact hg1.kept hb2 | exact hg1.kept (below_step hb2 ((Below.refl _ _).alloc (Nat.le_refl _) _)) | exact (hg1.kept hb2).kept ((Below.refl _ _).alloc (Nat.le_refl _) _)); (focus first | exact hg2 | exact hg2.kept ((Below.refl _ _).alloc (Nat.le_refl _) _)); rintro e w3 ⟨m3, v3, k3, rfl, hg3, hb3⟩; obtain ⟨a3, d3, hv3⟩ := bg_form hg3; subst hv3; have kz3 := hb3.size; (try simp at kz3); have hW3 : Below W.heap.size W w3 := below_step hb3 (by first | exact (Below.refl _ _).drew | (go_split_ands; assumption)); (first | (have hrr := number_row hb3; obtain ⟨⟨r0, r1, f0, f1⟩, hrow⟩ := hrr) | (have hrr := number_row (below_step hb3 hb2); obtain ⟨⟨r0, r1, f0, f1⟩, hrow⟩ := hrr) | (have hrr := number_row (below_step hb3 (below_step hb2 (below_step hb1 (Below.refl _ _).drew))); obtain ⟨⟨r0, r1, f0, f1⟩, hrow⟩ := hrr) | skip))))
    all_goals
      go_wp2_with fail
      go_meet
      first
        | exact ⟨_, m3, _, k3, rfl, by simp [go_sem, r0], by simp [go_sem, r1], hg3.store2 hrow, by first | exact Nat.le_refl _ | exact hW1.size | exact hW2.size, by first | (simp; done) | (simp; omega), (hW3.setCell (by first | exact Nat.le_refl _ | exact hW1.size | exact hW2.size) _).setCell (by first | exact Nat.le_refl _ | exact hW1.size | exact hW2.size) _⟩
        | exact ⟨_, m3, _, k3, rfl, by simp [go_sem], by simp [go_sem], hg3.kept ((Below.refl _ _).alloc (Nat.le_refl _) _), hW3.size, by simp, hW3.alloc hW3.size _⟩
  case rest =>
    obtain ⟨r7, n7, v7', l7, hv7, c70, c71, hg7, hr7, hr7', hbc⟩ := hcut
    subst hv7
    obtain ⟨a7, d7, hf7⟩ := bg_form hg7
    subst hf7
    have hwc : Below w.heap.size w wc := hw.trans (hbc.mono hw.size)
    have KT : ∀ w', Below wc.heap.size wc w' → (w'.cell? ⟨w.heap.size, 0, none⟩ = some (.bool nax) ∧ w'.cell? ⟨w.heap.size, 1, none⟩ = some (.slice oax lax.length cax) ∧ w'.cell? ⟨w.heap.size, 2, none⟩ = some (.bool nay) ∧ w'.cell? ⟨w.heap.size, 3, none⟩ = some (.slice oay lay.length cay) ∧ w'.cell? ⟨w.heap.size + 1, 0, none⟩ = some (.bool nbx) ∧ w'.cell? ⟨w.heap.size + 1, 1, none⟩ = some (.slice obx lbx.length cbx) ∧ w'.cell? ⟨w.heap.size + 1, 2, none⟩ = some (.bool nby) ∧ w'.cell? ⟨w.heap.size + 1, 3, none⟩ = some (.slice oby lby.length cby) ∧ w'.cell? ⟨w.heap.size + 1 + 1, 0, none⟩ = some (.bool ncx) ∧ w'.cell? ⟨w.heap.size + 1 + 1, 1, none⟩ = some (.slice ocx lcx.length ccx) ∧ w'.cell? ⟨w.heap.size + 1 + 1, 2, none⟩ = some (.bool ncy) ∧ w'.cell? ⟨w.heap.size + 1 + 1, 3, none⟩ = some (.slice ocy lcy.length ccy)) ∧ Below wc.heap.size wc w' := fun w' h => ⟨(KS w' (below_step h hbc)).1, h⟩
    have HP1 : Hid (((Xbx - Xax) * (Xcy - Xay)).natAbs < 2 ^ 402 ∧ ((Xby - Xay) * (Xcx - Xax)).natAbs < 2 ^ 402) := ⟨bprod_lt sbx sax scy say, bprod_lt sby say scx sax⟩
    have hT0 := KT wc (Below.refl _ _)
    clear KS
    go_wp2
    go_cut [8] (fun v8 wd => ∃ r nc vc lc, v8 = .pointer (some ⟨r, 0, none⟩) ∧ wd.cell? ⟨r, 0, none⟩ = some (.bool nc) ∧ wd.cell? ⟨r, 1, none⟩ = some vc ∧ Bg wd nc vc lc ((Xby - Xay) * (Xcx - Xax)) ∧ wc.heap.size ≤ r ∧ r < wd.heap.size ∧ Below wc.heap.size wc wd)
    case first =>
      go_region_held3 (fun w' => (w'.cell? ⟨w.heap.size, 0, none⟩ = some (.bool nax) ∧ w'.cell? ⟨w.heap.size, 1, none⟩ = some (.slice oax lax.length cax) ∧ w'.cell? ⟨w.heap.size, 2, none⟩ = some (.bool nay) ∧ w'.cell? ⟨w.heap.size, 3, none⟩ = some (.slice oay lay.length cay) ∧ w'.cell? ⟨w.heap.size + 1, 0, none⟩ = some (.bool nbx) ∧ w'.cell? ⟨w.heap.size + 1, 1, none⟩ = some (.slice obx lbx.length cbx) ∧ w'.cell? ⟨w.heap.size + 1, 2, none⟩ = some (.bool nby) ∧ w'.cell? ⟨w.heap.size + 1, 3, none⟩ = some (.slice oby lby.length cby) ∧ w'.cell? ⟨w.heap.size + 1 + 1, 0, none⟩ = some (.bool ncx) ∧ w'.cell? ⟨w.heap.size + 1 + 1, 1, none⟩ = some (.slice ocx lcx.length ccx) ∧ w'.cell? ⟨w.heap.size + 1 + 1, 2, none⟩ = some (.bool ncy) ∧ w'.cell? ⟨w.heap.size + 1 + 1, 3, none⟩ = some (.slice ocy lcy.length ccy)) ∧ Below wc.heap.size wc w') (first | exact KT _ (Below.refl _ _).drew | (go_split_ands; first | exact KT _ hW3 | exact KT _ (hW3.alloc hW3.size _) | exact KT _ ((hW3.setCell (by first | (simp; done) | (simp; omega)) _).setCell (by first | (simp; done) | (simp; omega)) _) | exact KT _ (below_step hb3 (by assumption)) | exact KT _ (below_step hb2 (by assumption)) | exact KT _ (below_step hb1 (by assumption)) | exact KT _ (Below.alloc (by assumption) (Below.size (by assumption)) _) | exact KT _ (Below.setCell (Below.setCell (by assumption) (by first | (simp; done) | (simp; omega)) _) (by first | (simp; done) | (simp; omega)) _) | exact KT _ (Below.drew (by assumption)) | exact KT _ (by assumption))) (first | (go_at_call 23; have g1 := hb1; go_must (refine (less_bg ncx nax _ _ lcx lax Xcx Xax _ (hcx.kept (hwc.trans (Below.mono (B := wc.heap.size) ?_ hwc.size))) (hax.kept (hwc.trans (Below.mono (B := wc.heap.size) ?_ hwc.size))) (small200 scx) (small200 sax)).mono ?_; (focus (first | exact (Below.refl _ _).drew | (go_split_ands; assumption))); (focus (first | exact (Below.refl _ _).drew | (go_split_ands; assumption))); rintro e w2 ⟨m2, v2, k2, rfl, hg2, hb2⟩; obtain ⟨a2, d2, hv2⟩ := bg_form hg2; subst hv2; have kz2 := hb2.size; (try simp at kz2); have hW2 : Below wc.heap.size wc w2 := below_step hb2 (by first | exact (Below.refl _ _).drew | (go_split_ands; assumption)))) | (go_at_call 23; go_must (refine (less_bg nby nay _ _ lby lay Xby Xay _ (hby.kept (hwc.trans (Below.mono (B := wc.heap.size) ?_ hwc.size))) (hay.kept (hwc.trans (Below.mono (B := wc.heap.size) ?_ hwc.size))) (small200 sby) (small200 say)).mono ?_; (focus (first | exact (Below.refl _ _).drew | (go_split_ands; assumption))); (focus (first | exact (Below.refl _ _).drew | (go_split_ands; assumption))); rintro e w1 ⟨m1, v1, k1, rfl, hg1, hb1⟩; obtain ⟨a1, d1, hv1⟩ := bg_form hg1; subst hv1; have kz1 := hb1.size; (try simp at kz1); have hW1 : Below wc.heap.size wc w1 := below_step hb1 (by first | exact (Below.refl _ _).drew | (go_split_ands; assumption)))) | (go_at_call 45; go_must (refine (times_bg m1 m2 _ _ k1 k2 _ _ _ ?_ ?_ (small_sub sby say) (small_sub scx sax)).mono ?_; (focus first | exact hg1.kept hb2 | exact hg1.kept (below_step hb2 ((Below.refl _ _).alloc (Nat.le_refl _) _)) | exact (hg1.kept hb2).kept ((Below.refl _ _).alloc (Nat.le_refl _) _)); (focus first | exact hg2 | exact hg2.kept ((Below.refl _ _).alloc (Nat.le_refl _) _)); rintro e w3 ⟨m3, v3, k3, rfl, hg3, hb3⟩; obtain ⟨a3, d3, hv3⟩ := bg_form hg3; subst hv3; have kz3 := hb3.size; (try simp at kz3); have hW3 : Below wc.heap.size wc w3 := below_step hb3 (by first | exact (Below.refl _ _).drew | (go_split_ands; assumption)); (first | (have hrr := number_row hb3; obtain ⟨⟨r0, r1, f0, f1⟩, hrow⟩ := hrr) | (have hrr := number_row (below_step hb3 hb2); obtain ⟨⟨r0, r1, f0, f1⟩, hrow⟩ := hrr) | (have hrr := number_row (below_step hb3 (below_step hb2 (below_step hb1 (Below.refl _ _).drew))); obtain ⟨⟨r0, r1, f0, f1⟩, hrow⟩ := hrr) | skip))))
      all_goals
        go_wp2_with fail
        go_meet
        first
          | exact ⟨_, m3, _, k3, rfl, by simp [go_sem, r0], by simp [go_sem, r1], hg3.store2 hrow, by first | exact Nat.le_refl _ | exact hW1.size | exact hW2.size, by first | (simp; done) | (simp; omega), (hW3.setCell (by first | exact Nat.le_refl _ | exact hW1.size | exact hW2.size) _).setCell (by first | exact Nat.le_refl _ | exact hW1.size | exact hW2.size) _⟩
          | exact ⟨_, m3, _, k3, rfl, by simp [go_sem], by simp [go_sem], hg3.kept ((Below.refl _ _).alloc (Nat.le_refl _) _), hW3.size, by simp, hW3.alloc hW3.size _⟩
    case rest =>
      obtain ⟨r8, n8, v8', l8, hv8, c80, c81, hg8, hr8, hr8', hbd⟩ := hcut
      subst hv8
      obtain ⟨a8, d8, hf8⟩ := bg_form hg8
      subst hf8
      have e70 := ((bcell hbd).1 r7 0 hr7').trans c70
      have e71 := ((bcell hbd).1 r7 1 hr7').trans c71
      have hg7' := hg7.kept hbd
      clear KT hT0 c70 c71 hg7
      go_wp2_with (first | (go_at_call 23; go_must (refine (less_bg n7 n8 _ _ l7 l8 _ _ _ hg7' hg8 (small_of HP1.out.1 (by decide)) (small_of HP1.out.2 (by decide))).mono ?_; rintro e w5 ⟨m5, v5, k5, rfl, hg5, hb5⟩; obtain ⟨a5, d5, hv5⟩ := bg_form hg5; subst hv5)) | (go_at_call 22; go_must (refine (sign_bg m5 _ k5 _ _ hg5).mono ?_; rintro e w6 ⟨rfl, hb6⟩)))
      go_ret
      exact ⟨hwc.trans ((below_step hb6 (below_step hb5 hbd)).mono hwc.size), rfl⟩

end Go.Proofs.YtbjjkfmdkmbcfaaGreat

namespace Go.Proofs.YtbjjkfmdkmbcfaaGreat
open Go.RowKit
open PlLv

attribute [local go_sem ↓] Go.wp_at_zero Go.wp_at_succ

theorem store_other {Z w5 : World} {R b o : Nat} {u u' : Value} (h : Below Z.heap.size Z w5) (hb : b ≠ R) (hlt : b < Z.heap.size) : ((w5.setCell ⟨R, 0, none⟩ u).setCell ⟨R, 1, none⟩ u').cell? ⟨b, o, none⟩ = Z.cell? ⟨b, o, none⟩ := by
  rw [World.cell?_of_block (w := w5) (a := ⟨b, o, none⟩) (by rw [Below.heap_setCell _ ⟨R, 1, none⟩ u' b hb, Below.heap_setCell _ ⟨R, 0, none⟩ u b hb])]
  exact h.cell (p := ⟨b, o, none⟩) hlt

theorem lt_add {x y : Int} {e f : Nat} (h : x.natAbs < 2 ^ e) (h2 : y.natAbs < 2 ^ e) (hf : f = e + 1) : (x + y).natAbs < 2 ^ f := by
  rw [hf, Nat.pow_succ]
  omega

theorem sq_lt {a b : Int} (ha : a.natAbs < 2 ^ 200) (hb : b.natAbs < 2 ^ 200) : ((a - b) * (a - b)).natAbs < 2 ^ 402 := bprod_lt ha hb ha hb

theorem sumsq_lt {a b c d : Int} (ha : a.natAbs < 2 ^ 200) (hb : b.natAbs < 2 ^ 200) (hc : c.natAbs < 2 ^ 200) (hd : d.natAbs < 2 ^ 200) : ((a - b) * (a - b) + (c - d) * (c - d)).natAbs < 2 ^ 403 := by
  exact lt_add (e := 402) (f := 403) (sq_lt ha hb) (sq_lt hc hd) rfl

set_option maxHeartbeats 4000000 in
set_option maxRecDepth 100000 in
theorem rsquare_any (nax : Bool) (oax : Option Addr) (cax : Nat) (lax : List Nat) (Xax : Int) (nay : Bool) (oay : Option Addr) (cay : Nat) (lay : List Nat) (Xay : Int) (nbx : Bool) (obx : Option Addr) (cbx : Nat) (lbx : List Nat) (Xbx : Int) (nby : Bool) (oby : Option Addr) (cby : Nat) (lby : List Nat) (Xby : Int) (w : World) (hax : Bg w nax (.slice oax lax.length cax) lax Xax) (sax : Xax.natAbs < 2 ^ 200) (hay : Bg w nay (.slice oay lay.length cay) lay Xay) (say : Xay.natAbs < 2 ^ 200) (hbx : Bg w nbx (.slice obx lbx.length cbx) lbx Xbx) (sbx : Xbx.natAbs < 2 ^ 200) (hby : Bg w nby (.slice oby lby.length cby) lby Xby) (sby : Xby.natAbs < 2 ^ 200) :
    Calls Tryz.prog 24 #[.agg #[.bool nax, .slice oax lax.length cax, .bool nay, .slice oay lay.length cay], .agg #[.bool nbx, .slice obx lbx.length cbx, .bool nby, .slice oby lby.length cby]] w fun e w' => ∃ nc vc lc, e = .returned (.agg #[.bool nc, vc]) ∧ Bg w' nc vc lc ((Xbx - Xax) * (Xbx - Xax) + (Xby - Xay) * (Xby - Xay)) ∧ Below w.heap.size w w' := by
  have hs1 := small_sub sbx sax
  have hs2 := small_sub sby say
  have HSM : Hid (Small ((Xbx - Xax) * (Xbx - Xax)) ∧ Small ((Xby - Xay) * (Xby - Xay))) := ⟨small_of (sq_lt sbx sax) (by decide), small_of (sq_lt sby say) (by decide)⟩
  go_enter Tryz.func24, Tryz.ntmps24
  go_upto_region 1 with fail
  generalize hW : World.alloc (World.alloc (World.alloc w _) _) _ = W
  have hWs : W.heap.size = w.heap.size + 3 := by subst hW; simp
  have hw : Below w.heap.size w W := by
    subst hW
    exact ((((Below.refl _ w).alloc (Nat.le_refl _) _).alloc (by simp) _).alloc (by simp; omega) _)
  have KS : ∀ w', Below W.heap.size W w' → (w'.cell? ⟨w.heap.size, 0, none⟩ = some (.bool nax) ∧ w'.cell? ⟨w.heap.size, 1, none⟩ = some (.slice oax lax.length cax) ∧ w'.cell? ⟨w.heap.size, 2, none⟩ = some (.bool nay) ∧ w'.cell? ⟨w.heap.size, 3, none⟩ = some (.slice oay lay.length cay) ∧ w'.cell? ⟨w.heap.size + 1, 0, none⟩ = some (.bool nbx) ∧ w'.cell? ⟨w.heap.size + 1, 1, none⟩ = some (.slice obx lbx.length cbx) ∧ w'.cell? ⟨w.heap.size + 1, 2, none⟩ = some (.bool nby) ∧ w'.cell? ⟨w.heap.size + 1, 3, none⟩ = some (.slice oby lby.length cby)) ∧ Below W.heap.size W w' := by
    intro w' hb
    obtain ⟨hc, _⟩ := bcell hb
    refine ⟨⟨?_, ?_, ?_, ?_, ?_, ?_, ?_, ?_⟩, hb⟩
    all_goals (rw [hc _ _ (by omega)]; subst hW; simp [go_sem])
  have KR : Hid (∀ w', Below W.heap.size W w' → (w'.cell? ⟨w.heap.size + 1 + 1, 0, none⟩ = some (.bool false) ∧ w'.cell? ⟨w.heap.size + 1 + 1, 1, none⟩ = some (.slice none 0 0) ∧ w'.frozen? ⟨w.heap.size + 1 + 1, 0, none⟩ = false ∧ w'.frozen? ⟨w.heap.size + 1 + 1, 1, none⟩ = false) ∧ (∀ cur, w'.heap[w.heap.size + 1 + 1]? ≠ some (.cells cur 105 (0, 0)))) := by
    intro w' hb
    obtain ⟨hc, hf⟩ := bcell hb
    rw [hc _ _ (by omega), hc _ _ (by omega), hf _ _ (by omega), hf _ _ (by omega), hb.block _ (by omega)]
    subst hW
    refine ⟨by simp [go_sem], fun cur h => ?_⟩
    rw [show w.heap.size + 1 + 1 = ((w.alloc _).alloc _).heap.size by simp, heap_alloc_new] at h
    simp at h
  clear hW
  have HWS : Hid (W.heap.size = w.heap.size + 3) := hWs
  have hWs' : w.heap.size + 3 ≤ W.heap.size := by omega
  clear hWs
  obtain ⟨⟨s0, s1, s2, s3, s4, s5, s6, s7⟩, _⟩ := KS W (Below.refl _ _)
  go_wp2_with (first | (go_at_call 23; have g1 := hb1; go_must (refine (less_bg nby nay _ _ lby lay Xby Xay _ (hby.kept (hw.trans ((hW1.alloc hW1.size _).mono hw.size))) (hay.kept (hw.trans ((hW1.alloc hW1.size _).mono hw.size))) (small200 sby) (small200 say)).mono ?_; rintro e w2 ⟨m2, v2, k2, rfl, hg2, hb2⟩; obtain ⟨a2, d2, hv2⟩ := bg_form hg2; subst hv2; have hW2 : Below W.heap.size W w2 := below_step hb2 (hW1.alloc hW1.size _); have kz2 : w1.heap.size < w2.heap.size := (by have := hb2.size; simp at this; omega))) | (go_at_call 23; go_must (refine (less_bg nbx nax _ _ lbx lax Xbx Xax _ (hbx.kept hw) (hax.kept hw) (small200 sbx) (small200 sax)).mono ?_; rintro e w1 ⟨m1, v1, k1, rfl, hg1, hb1⟩; obtain ⟨a1, d1, hv1⟩ := bg_form hg1; subst hv1; have hW1 := hb1; obtain ⟨⟨t0, t1, t2, t3, t4, t5, t6, t7⟩, _⟩ := KS w1 hW1; have kz1 : w.heap.size + 3 ≤ w1.heap.size := (by have := hW1.size; omega); have kq0 : w.heap.size < w1.heap.size := (by omega); have kq1 : w.heap.size + 1 < w1.heap.size := (by omega))))
  generalize hZ : World.alloc w2 _ = Z
  have hWZ : Below W.heap.size W Z := by subst hZ; exact hW2.alloc hW2.size _
  have hZs : Z.heap.size = w2.heap.size + 1 := by subst hZ; simp
  have hB1 : Bg Z m1 (.slice a1 k1.length d1) k1 (Xbx - Xax) := by
    subst hZ
    exact (hg1.kept (below_step hb2 ((Below.refl _ _).alloc (Nat.le_refl _) _))).kept ((Below.refl _ _).alloc (Nat.le_refl _) _)
  have hB2 : Bg Z m2 (.slice a2 k2.length d2) k2 (Xby - Xay) := by subst hZ; exact hg2.kept ((Below.refl _ _).alloc (Nat.le_refl _) _)
  have KZ : ∀ w' : World, (∀ b o, w.heap.size + 3 ≤ b → b < Z.heap.size → w'.cell? ⟨b, o, none⟩ = Z.cell? ⟨b, o, none⟩) → (w'.cell? ⟨w1.heap.size, 0, none⟩ = some (.bool m1) ∧ w'.cell? ⟨w1.heap.size, 1, none⟩ = some (.slice a1 k1.length d1) ∧ w'.cell? ⟨w2.heap.size, 0, none⟩ = some (.bool m2) ∧ w'.cell? ⟨w2.heap.size, 1, none⟩ = some (.slice a2 k2.length d2)) := by
    intro w' h
    rw [h _ _ (by omega) (by omega), h _ _ (by omega) (by omega), h _ _ (by omega) (by omega), h _ _ (by omega) (by omega)]
    subst hZ
    refine ⟨?_, ?_, by simp [go_sem], by simp [go_sem]⟩
    · rw [World.cell?_alloc_past _ _ _ kz2, (bcell hb2).1 _ _ (by simp)]; simp [go_sem]
    · rw [World.cell?_alloc_past _ _ _ kz2, (bcell hb2).1 _ _ (by simp)]; simp [go_sem]
  have hZ0 := KZ Z (fun b o _ _ => rfl)
  clear hZ hZs
  go_region_held3 (fun w' : World => (w'.cell? ⟨w1.heap.size, 0, none⟩ = some (.bool m1) ∧ w'.cell? ⟨w1.heap.size, 1, none⟩ = some (.slice a1 k1.length d1) ∧ w'.cell? ⟨w2.heap.size, 0, none⟩ = some (.bool m2) ∧ w'.cell? ⟨w2.heap.size, 1, none⟩ = some (.slice a2 k2.length d2))) (first | exact KZ _ (fun b o _ _ => rfl) | exact KZ _ (fun b o h1 h2 => store_other hZ5 (by omega) h2) | exact KZ _ (fun b o _ h => (bcell hZ5).1 b o h) | exact KZ _ (fun b o _ h => (bcell hZ4).1 b o h) | exact KZ _ (fun b o _ h => (bcell hZ3).1 b o h)) (first | (go_at_call 45; have g3 := hb3; go_must (refine (times_bg m2 m2 _ _ k2 k2 _ _ _ (hB2.kept hZ3) (hB2.kept hZ3) hs2 hs2).mono ?_; rintro e w4 ⟨m4, v4, k4, rfl, hg4, hb4⟩; obtain ⟨a4, d4, hv4⟩ := bg_form hg4; subst hv4; have hZ4 : Below Z.heap.size Z w4 := below_step hb4 hZ3)) | (go_at_call 45; go_must (refine (times_bg m1 m1 _ _ k1 k1 _ _ _ (hB1.kept (Below.refl _ _).drew) (hB1.kept (Below.refl _ _).drew) hs1 hs1).mono ?_; rintro e w3 ⟨m3, v3, k3, rfl, hg3, hb3⟩; obtain ⟨a3, d3, hv3⟩ := bg_form hg3; subst hv3; have hZ3 : Below Z.heap.size Z w3 := below_step hb3 (Below.refl _ _).drew)) | (go_at_call 46; go_must (refine (sum_bg m3 m4 _ _ k3 k4 _ _ _ (hg3.kept hb4) hg4 HSM.out.1 HSM.out.2).mono ?_; rintro e w5 ⟨m5, v5, k5, rfl, hg5, hb5⟩; obtain ⟨a5, d5, hv5⟩ := bg_form hg5; subst hv5; have hZ5 : Below Z.heap.size Z w5 := below_step hb5 hZ4; obtain ⟨⟨r0, r1, f0, f1⟩, hrow⟩ := KR.out w5 (below_step hZ5 hWZ))))
  all_goals
    go_wp2
    refine bodyPost_ret (v := .agg #[.bool m5, .slice a5 k5.length d5]) (by simp [results, Tryz.results24, go_sem, r0, r1]) rfl ⟨m5, _, k5, rfl, hg5.store2 hrow, ?_⟩
    have hbw : Below w.heap.size w w5 := hw.trans ((below_step hZ5 hWZ).mono hw.size)
    exact (hbw.setCell (by simp; omega) _).setCell (by simp; omega) _

end Go.Proofs.YtbjjkfmdkmbcfaaGreat
