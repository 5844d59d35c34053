import Derived.Test.YtbjjkfmdkmbcfaaGreatRn
namespace Go.Proofs.YtbjjkfmdkmbcfaaGreat
open Go.RowKit
open PlLv

attribute [local go_sem ↓] Go.wp_at_zero Go.wp_at_succ

theorem store_other {Z w5 : World} {R b o : Nat} {u u' : Value} (h : Below Z.heap.size Z w5) (hb : b ≠ R) (hlt : b < Z.heap.size) : ((w5.setCell ⟨R, 0, none⟩ u).setCell ⟨R, 1, none⟩ u').cell? ⟨b, o, none⟩ = Z.cell? ⟨b, o, none⟩ := by
  rw [World.cell?_of_block (w := w5) (a := ⟨b, o, none⟩) (by rw [Below.heap_setCell _ ⟨R, 1, none⟩ u' b hb, Below.heap_setCell _ ⟨R, 0, none⟩ u b hb])]
  exact h.cell (p := ⟨b, o, none⟩) hlt

theorem lt_add {x y : Int} {e f : Nat} (h : x.natAbs < 2 ^ e) (h2 : y.natAbs < 2 ^ e) (hf : f = e + 1) : (x + y).natAbs < 2 ^ f := by
  rw [hf, Nat.pow_succ]
  omega

theorem sq_lt {a b : Int} (ha : a.natAbs < 2 ^ 200) (hb : b.natAbs < 2 ^ 200) : ((a - b) * (a - b)).natAbs < 2 ^ 402 := bprod_lt ha hb ha hb

theorem sumsq_lt {a b c d : Int} (ha : a.natAbs < 2 ^ 200) (hb : b.natAbs < 2 ^ 200) (hc : c.natAbs < 2 ^ 200) (hd : d.natAbs < 2 ^ 200) : ((a - b) * (a - b) + (c - d) * (c - d)).natAbs < 2 ^ 403 := by
  exact lt_add (e := 402) (f := 403) (sq_lt ha hb) (sq_lt hc hd) rfl

set_option maxHeartbeats 4000000 in
set_option maxRecDepth 100000 in
theorem rsquare_any (nax : Bool) (oax : Option Addr) (cax : Nat) (lax : List Nat) (Xax : Int) (nay : Bool) (oay : Option Addr) (cay : Nat) (lay : List Nat) (Xay : Int) (nbx : Bool) (obx : Option Addr) (cbx : Nat) (lbx : List Nat) (Xbx : Int) (nby : Bool) (oby : Option Addr) (cby : Nat) (lby : List Nat) (Xby : Int) (w : World) (hax : Bg w nax (.slice oax lax.length cax) lax Xax) (sax : Xax.natAbs < 2 ^ 200) (hay : Bg w nay (.slice oay lay.length cay) lay Xay) (say : Xay.natAbs < 2 ^ 200) (hbx : Bg w nbx (.slice obx lbx.length cbx) lbx Xbx) (sbx : Xbx.natAbs < 2 ^ 200) (hby : Bg w nby (.slice oby lby.length cby) lby Xby) (sby : Xby.natAbs < 2 ^ 200) :
    Calls Tryz.prog 24 #[.agg #[.bool nax, .slice oax lax.length cax, .bool nay, .slice oay lay.length cay], .agg #[.bool nbx, .slice obx lbx.length cbx, .bool nby, .slice oby lby.length cby]] w fun e w' => ∃ nc vc lc, e = .returned (.agg #[.bool nc, vc]) ∧ Bg w' nc vc lc ((Xbx - Xax) * (Xbx - Xax) + (Xby - Xay) * (Xby - Xay)) ∧ Below w.heap.size w w' := by
  have hs1 := small_sub sbx sax
  have hs2 := small_sub sby say
  have HSM : Hid (Small ((Xbx - Xax) * (Xbx - Xax)) ∧ Small ((Xby - Xay) * (Xby - Xay))) := ⟨small_of (sq_lt sbx sax) (by decide), small_of (sq_lt sby say) (by decide)⟩
  go_enter Tryz.func24, Tryz.ntmps24
  go_upto_region 1 with fail
  generalize hW : World.alloc (World.alloc (World.alloc w _) _) _ = W
  have hWs : W.heap.size = w.heap.size + 3 := by subst hW; simp
  have hw : Below w.heap.size w W := by
    subst hW
    exact ((((Below.refl _ w).alloc (Nat.le_refl _) _).alloc (by simp) _).alloc (by simp; omega) _)
  have KS : ∀ w', Below W.heap.size W w' → (w'.cell? ⟨w.heap.size, 0, none⟩ = some (.bool nax) ∧ w'.cell? ⟨w.heap.size, 1, none⟩ = some (.slice oax lax.length cax) ∧ w'.cell? ⟨w.heap.size, 2, none⟩ = some (.bool nay) ∧ w'.cell? ⟨w.heap.size, 3, none⟩ = some (.slice oay lay.length cay) ∧ w'.cell? ⟨w.heap.size + 1, 0, none⟩ = some (.bool nbx) ∧ w'.cell? ⟨w.heap.size + 1, 1, none⟩ = some (.slice obx lbx.length cbx) ∧ w'.cell? ⟨w.heap.size + 1, 2, none⟩ = some (.bool nby) ∧ w'.cell? ⟨w.heap.size + 1, 3, none⟩ = some (.slice oby lby.length cby)) ∧ Below W.heap.size W w' := by
    intro w' hb
    obtain ⟨hc, _⟩ := bcell hb
    refine ⟨⟨?_, ?_, ?_, ?_, ?_, ?_, ?_, ?_⟩, hb⟩
    all_goals (rw [hc _ _ (by omega)]; subst hW; simp [go_sem])
  have KR : Hid (∀ w', Below W.heap.size W w' → (w'.cell? ⟨w.heap.size + 1 + 1, 0, none⟩ = some (.bool false) ∧ w'.cell? ⟨w.heap.size + 1 + 1, 1, none⟩ = some (.slice none 0 0) ∧ w'.frozen? ⟨w.heap.size + 1 + 1, 0, none⟩ = false ∧ w'.frozen? ⟨w.heap.size + 1 + 1, 1, none⟩ = false) ∧ (∀ cur, w'.heap[w.heap.size + 1 + 1]? ≠ some (.cells cur 105 (0, 0)))) := by
    intro w' hb
    obtain ⟨hc, hf⟩ := bcell hb
    rw [hc _ _ (by omega), hc _ _ (by omega), hf _ _ (by omega), hf _ _ (by omega), hb.block _ (by omega)]
    subst hW
    refine ⟨by simp [go_sem], fun cur h => ?_⟩
    rw [show w.heap.size + 1 + 1 = ((w.alloc _).alloc _).heap.size by simp, heap_alloc_new] at h
    simp at h
  clear hW
  have HWS : Hid (W.heap.size = w.heap.size + 3) := hWs
  have hWs' : w.heap.size + 3 ≤ W.heap.size := by omega
  clear hWs
  obtain ⟨⟨s0, s1, s2, s3, s4, s5, s6, s7⟩, _⟩ := KS W (Below.refl _ _)
  go_wp2_with (first | (go_at_call 23; have g1 := hb1; go_must (refine (less_bg nby nay _ _ lby lay Xby Xay _ (hby.kept (hw.trans ((hW1.alloc hW1.size _).mono hw.size))) (hay.kept (hw.trans ((hW1.alloc hW1.size _).mono hw.size))) (small200 sby) (small200 say)).mono ?_; rintro e w2 ⟨m2, v2, k2, rfl, hg2, hb2⟩; obtain ⟨a2, d2, hv2⟩ := bg_form hg2; subst hv2; have hW2 : Below W.heap.size W w2 := below_step hb2 (hW1.alloc hW1.size _); have kz2 : w1.heap.size < w2.heap.size := (by have := hb2.size; simp at this; omega))) | (go_at_call 23; go_must (refine (less_bg nbx nax _ _ lbx lax Xbx Xax _ (hbx.kept hw) (hax.kept hw) (small200 sbx) (small200 sax)).mono ?_; rintro e w1 ⟨m1, v1, k1, rfl, hg1, hb1⟩; obtain ⟨a1, d1, hv1⟩ := bg_form hg1; subst hv1; have hW1 := hb1; obtain ⟨⟨t0, t1, t2, t3, t4, t5, t6, t7⟩, _⟩ := KS w1 hW1; have kz1 : w.heap.size + 3 ≤ w1.heap.size := (by have := hW1.size; omega); have kq0 : w.heap.size < w1.heap.size := (by omega); have kq1 : w.heap.size + 1 < w1.heap.size := (by omega))))
  generalize hZ : World.alloc w2 _ = Z
  have hWZ : Below W.heap.size W Z := by subst hZ; exact hW2.alloc hW2.size _
  have hZs : Z.heap.size = w2.heap.size + 1 := by subst hZ; simp
  have hB1 : Bg Z m1 (.slice a1 k1.length d1) k1 (Xbx - Xax) := by
    subst hZ
    exact (hg1.kept (below_step hb2 ((Below.refl _ _).alloc (Nat.le_refl _) _))).kept ((Below.refl _ _).alloc (Nat.le_refl _) _)
  have hB2 : Bg Z m2 (.slice a2 k2.length d2) k2 (Xby - Xay) := by subst hZ; exact hg2.kept ((Below.refl _ _).alloc (Nat.le_refl _) _)
  have KZ : ∀ w' : World, (∀ b o, w.heap.size + 3 ≤ b → b < Z.heap.size → w'.cell? ⟨b, o, none⟩ = Z.cell? ⟨b, o, none⟩) → (w'.cell? ⟨w1.heap.size, 0, none⟩ = some (.bool m1) ∧ w'.cell? ⟨w1.heap.size, 1, none⟩ = some (.slice a1 k1.length d1) ∧ w'.cell? ⟨w2.heap.size, 0, none⟩ = some (.bool m2) ∧ w'.cell? ⟨w2.heap.size, 1, none⟩ = some (.slice a2 k2.length d2)) := by
    intro w' h
    rw [h _ _ (by omega) (by omega), h _ _ (by omega) (by omega), h _ _ (by omega) (by omega), h _ _ (by omega) (by omega)]
    subst hZ
    refine ⟨?_, ?_, by simp [go_sem], by simp [go_sem]⟩
    · rw [World.cell?_alloc_past _ _ _ kz2, (bcell hb2).1 _ _ (by simp)]; simp [go_sem]
    · rw [World.cell?_alloc_past _ _ _ kz2, (bcell hb2).1 _ _ (by simp)]; simp [go_sem]
  have hZ0 := KZ Z (fun b o _ _ => rfl)
  clear hZ hZs
  go_region_held3 (fun w' : World => (w'.cell? ⟨w1.heap.size, 0, none⟩ = some (.bool m1) ∧ w'.cell? ⟨w1.heap.size, 1, none⟩ = some (.slice a1 k1.length d1) ∧ w'.cell? ⟨w2.heap.size, 0, none⟩ = some (.bool m2) ∧ w'.cell? ⟨w2.heap.size, 1, none⟩ = some (.slice a2 k2.length d2))) (first | exact KZ _ (fun b o _ _ => rfl) | exact KZ _ (fun b o h1 h2 => store_other hZ5 (by omega) h2) | exact KZ _ (fun b o _ h => (bcell hZ5).1 b o h) | exact KZ _ (fun b o _ h => (bcell hZ4).1 b o h) | exact KZ _ (fun b o _ h => (bcell hZ3).1 b o h)) (first | (go_at_call 45; have g3 := hb3; go_must (refine (times_bg m2 m2 _ _ k2 k2 _ _ _ (hB2.kept hZ3) (hB2.kept hZ3) hs2 hs2).mono ?_; rintro e w4 ⟨m4, v4, k4, rfl, hg4, hb4⟩; obtain ⟨a4, d4, hv4⟩ := bg_form hg4; subst hv4; have hZ4 : Below Z.heap.size Z w4 := below_step hb4 hZ3)) | (go_at_call 45; go_must (refine (times_bg m1 m1 _ _ k1 k1 _ _ _ (hB1.kept (Below.refl _ _).drew) (hB1.kept (Below.refl _ _).drew) hs1 hs1).mono ?_; rintro e w3 ⟨m3, v3, k3, rfl, hg3, hb3⟩; obtain ⟨a3, d3, hv3⟩ := bg_form hg3; subst hv3; have hZ3 : Below Z.heap.size Z w3 := below_step hb3 (Below.refl _ _).drew)) | (go_at_call 46; go_must (refine (sum_bg m3 m4 _ _ k3 k4 _ _ _ (hg3.kept hb4) hg4 HSM.out.1 HSM.out.2).mono ?_; rintro e w5 ⟨m5, v5, k5, rfl, hg5, hb5⟩; obtain ⟨a5, d5, hv5⟩ := bg_form hg5; subst hv5; have hZ5 : Below Z.heap.size Z w5 := below_step hb5 hZ4; obtain ⟨⟨r0, r1, f0, f1⟩, hrow⟩ := KR.out w5 (below_step hZ5 hWZ))))
  all_goals
    go_wp2
    refine bodyPost_ret (v := .agg #[.bool m5, .slice a5 k5.length d5]) (by simp [results, Tryz.results24, go_sem, r0, r1]) rfl ⟨m5, _, k5, rfl, hg5.store2 hrow, ?_⟩
    have hbw : Below w.heap.size w w5 := hw.trans ((below_step hZ5 hWZ).mono hw.size)
    exact (hbw.setCell (by simp; omega) _).setCell (by simp; omega) _

end Go.Proofs.YtbjjkfmdkmbcfaaGreat
