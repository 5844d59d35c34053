import Derived.Test.YtbjjkfmdkmbcfaaGreatMWw
namespace Go.Proofs.YtbjjkfmdkmbcfaaGreat
open Go.RowKit
open PlRd

attribute [local go_sem ↓] Go.wp_at_zero Go.wp_at_succ

theorem square2_nv (v : Value) (x : Int) (w : World) (hv : Nv w v 0 x 974 1 1176) :
    Calls Tryz.prog 55 #[v] w fun e w' => ∃ v', e = .returned v' ∧ Nv w' v' 1 (x * x) 874 3 1283 ∧ Below w.heap.size w w' :=
  square_nv v 0 x 974 1 1176 w hv (by decide) (by decide) (by decide) (by decide)

theorem prod2_nv (v v2 : Value) (x y : Int) (w : World) (hv : Nv w v 0 x 974 1 1176) (hv2 : Nv w v2 0 y 974 1 1176) :
    Calls Tryz.prog 42 #[v, v2] w fun e w' => ∃ v', e = .returned v' ∧ Nv w' v' 1 (x * y) 874 3 1283 ∧ Below w.heap.size w w' :=
  product_nv v v2 0 0 x y 974 1 1176 974 1 1176 w hv hv2 (by decide) (by decide) (by decide) (by decide)

theorem total22_nv (v1 v2 : Value) (x y : Int) (w : World) (t : TypeId) (h1 : Pv w v1 1 x 874 3 1283) (h2 : Pv w v2 1 y 874 3 1283) :
    Calls Tryz.prog 39 #[.slice (some ⟨w.heap.size, 0, none⟩) 2 2] (w.alloc (.cells #[v1, v2] t)) fun e' w' => ∃ v', e' = .returned v' ∧ Nv w' v' 1 (x + y) 874 4 1288 ∧ Below w.heap.size w w' :=
  total2_nv v1 v2 1 x y 874 3 1283 w t h1 h2 (by decide) (by decide)

theorem below_alloc_of {w w' : World} (o : Obj) (h : Below (w.alloc o).heap.size (w.alloc o) w') : Below w.heap.size w w' := below_step h ((Below.refl _ w).alloc (Nat.le_refl _) o)

set_option maxHeartbeats 4000000 in
set_option maxRecDepth 100000 in
theorem length2_any (u v : Value) (X Y : Int) (w : World) (h1 : Nv w u 0 X 974 1 1176) (h2 : Nv w v 0 Y 974 1 1176) :
    Calls Tryz.prog 37 #[.agg #[u, v]] w fun e w' => ∃ v', e = .returned v' ∧ Nv w' v' 1 (X * X + Y * Y) 874 4 1288 ∧ Below w.heap.size w w' := by
  obtain ⟨p1, m1, d1, rfl⟩ := h1.form
  obtain ⟨p2, m2, d2, rfl⟩ := h2.form
  go_enter Tryz.func37, Tryz.ntmps37
  go_upto_region 1 with fail
  generalize hW : World.alloc w _ = W
  have hWs : W.heap.size = w.heap.size + 1 := by subst hW; simp
  have hw : Below w.heap.size w W := by
    subst hW
    exact ((Below.refl _ w).alloc (by simp <;> omega) _)
  have KS : ∀ w', Below W.heap.size W w' → (w'.cell? ⟨w.heap.size, 0, none⟩ = some (.slice (some ⟨p1, 0, none⟩) m1 d1) ∧ w'.cell? ⟨w.heap.size, 1, none⟩ = some (.slice (some ⟨p2, 0, none⟩) m2 d2)) := by
    intro w' hb
    obtain ⟨hc, _⟩ := bcell hb
    refine ⟨?_, ?_⟩
    all_goals (rw [hc _ _ (by omega)]; subst hW; simp [go_sem])
  clear hW hWs
  have hS0 := KS W (Below.refl _ _)
  go_region_held3 (fun w' : World => (w'.cell? ⟨w.heap.size, 0, none⟩ = some (.slice (some ⟨p1, 0, none⟩) m1 d1) ∧ w'.cell? ⟨w.heap.size, 1, none⟩ = some (.slice (some ⟨p2, 0, none⟩) m2 d2))) (exact KS _ (by repeat (first | exact hW3 | exact hW2 | exact hW1 | exact Below.refl _ _ | refine Below.drew ?_ | refine below_alloc _ ?_))) (first | (go_at_call 55; have gg1 := hb1; go_must (refine (square2_nv _ Y _ (h2.kept (hw.trans (Below.mono (B := W.heap.size) (by repeat (first | exact hW1 | exact Below.refl _ _ | refine Below.drew ?_ | refine below_alloc _ ?_)) hw.size)))).mono ?_; rintro e w2 ⟨v2, rfl, hn2, hb2⟩; obtain ⟨g2, n2, c2, hv2⟩ := hn2.form; subst hv2; have hW2 : Below W.heap.size W w2 := below_step hb2 (by repeat (first | exact hW1 | exact Below.refl _ _ | refine Below.drew ?_ | refine below_alloc _ ?_)); have hk1 : Nv w2 (.slice (some ⟨g1, 0, none⟩) n1 c1) 1 (X * X) 874 3 1283 := hn1.kept hb2)) | (go_at_call 55; go_must (refine (square2_nv _ X _ (h1.kept (hw.trans (Below.mono (B := W.heap.size) (by repeat (first | exact Below.refl _ _ | refine Below.drew ?_ | refine below_alloc _ ?_)) hw.size)))).mono ?_; rintro e w1 ⟨v1, rfl, hn1, hb1⟩; obtain ⟨g1, n1, c1, hv1⟩ := hn1.form; subst hv1; have hW1 : Below W.heap.size W w1 := below_step hb1 (by repeat (first | exact Below.refl _ _ | refine Below.drew ?_ | refine below_alloc _ ?_)))) | (go_at_call 39; go_must (refine (total22_nv _ _ _ _ _ _ hk1.toPv hn2.toPv).mono ?_; rintro e w3 ⟨v3, rfl, hn3, hb3⟩; obtain ⟨g3, n3, c3, hv3⟩ := hn3.form; subst hv3; have hW3 : Below W.heap.size W w3 := below_step hb3 (by repeat (first | exact hW2 | exact hW1 | exact Below.refl _ _ | refine Below.drew ?_ | refine below_alloc _ ?_)))))
  all_goals
    go_wp2
    go_ret
    exact ⟨_, rfl, hn3, hw.trans (hW3.mono hw.size)⟩

set_option maxHeartbeats 4000000 in
set_option maxRecDepth 100000 in
theorem cross_any (u v s t : Value) (X Y Z T : Int) (w : World) (h1 : Nv w u 0 X 974 1 1176) (h2 : Nv w v 0 Y 974 1 1176) (h3 : Nv w s 0 Z 974 1 1176) (h4 : Nv w t 0 T 974 1 1176) :
    Calls Tryz.prog 43 #[.agg #[u, v], .agg #[s, t]] w fun e w' => ∃ v', e = .returned v' ∧ Nv w' v' 1 (X * T - Y * Z) 874 4 1288 ∧ Below w.heap.size w w' := by
  obtain ⟨p1, m1, d1, rfl⟩ := h1.form
  obtain ⟨p2, m2, d2, rfl⟩ := h2.form
  obtain ⟨p3, m3, d3, rfl⟩ := h3.form
  obtain ⟨p4, m4, d4, rfl⟩ := h4.form
  go_enter Tryz.func43, Tryz.ntmps43
  go_upto_region 1 with fail
  generalize hW : World.alloc (World.alloc w _) _ = W
  have hWs : W.heap.size = w.heap.size + 2 := by subst hW; simp
  have hw : Below w.heap.size w W := by
    subst hW
    exact (((Below.refl _ w).alloc (by simp <;> omega) _).alloc (by simp <;> omega) _)
  have KS : ∀ w', Below W.heap.size W w' → (w'.cell? ⟨w.heap.size, 0, none⟩ = some (.slice (some ⟨p1, 0, none⟩) m1 d1) ∧ w'.cell? ⟨w.heap.size, 1, none⟩ = some (.slice (some ⟨p2, 0, none⟩) m2 d2) ∧ w'.cell? ⟨w.heap.size + 1, 0, none⟩ = some (.slice (some ⟨p3, 0, none⟩) m3 d3) ∧ w'.cell? ⟨w.heap.size + 1, 1, none⟩ = some (.slice (some ⟨p4, 0, none⟩) m4 d4)) := by
    intro w' hb
    obtain ⟨hc, _⟩ := bcell hb
    refine ⟨?_, ?_, ?_, ?_⟩
    all_goals (rw [hc _ _ (by omega)]; subst hW; simp [go_sem])
  clear hW hWs
  have hS0 := KS W (Below.refl _ _)
  go_region_held3 (fun w' : World => (w'.cell? ⟨w.heap.size, 0, none⟩ = some (.slice (some ⟨p1, 0, none⟩) m1 d1) ∧ w'.cell? ⟨w.heap.size, 1, none⟩ = some (.slice (some ⟨p2, 0, none⟩) m2 d2) ∧ w'.cell? ⟨w.heap.size + 1, 0, none⟩ = some (.slice (some ⟨p3, 0, none⟩) m3 d3) ∧ w'.cell? ⟨w.heap.size + 1, 1, none⟩ = some (.slice (some ⟨p4, 0, none⟩) m4 d4))) (exact KS _ (by repeat (first | exact hW4 | exact hW3 | exact hW2 | exact hW1 | exact Below.refl _ _ | refine Below.drew ?_ | refine below_alloc _ ?_))) (first | (go_at_call 42; have gg1 := hb1; go_must (refine (prod2_nv _ _ Y Z _ (h2.kept (hw.trans (Below.mono (B := W.heap.size) (by repeat (first | exact hW1 | exact Below.refl _ _ | refine Below.drew ?_ | refine below_alloc _ ?_)) hw.size))) (h3.kept (hw.trans (Below.mono (B := W.heap.size) (by repeat (first | exact hW1 | exact Below.refl _ _ | refine Below.drew ?_ | refine below_alloc _ ?_)) hw.size)))).mono ?_; rintro e w2 ⟨v2, rfl, hn2, hb2⟩; obtain ⟨g2, n2, c2, hv2⟩ := hn2.form; subst hv2; have hW2 : Below W.heap.size W w2 := below_step hb2 (by repeat (first | exact hW1 | exact Below.refl _ _ | refine Below.drew ?_ | refine below_alloc _ ?_)); have hk1 : Nv w2 (.slice (some ⟨g1, 0, none⟩) n1 c1) 1 (X * T) 874 3 1283 := hn1.kept hb2)) | (go_at_call 42; go_must (refine (prod2_nv _ _ X T _ (h1.kept (hw.trans (Below.mono (B := W.heap.size) (by repeat (first | exact Below.refl _ _ | refine Below.drew ?_ | refine below_alloc _ ?_)) hw.size))) (h4.kept (hw.trans (Below.mono (B := W.heap.size) (by repeat (first | exact Below.refl _ _ | refine Below.drew ?_ | refine below_alloc _ ?_)) hw.size)))).mono ?_; rintro e w1 ⟨v1, rfl, hn1, hb1⟩; obtain ⟨g1, n1, c1, hv1⟩ := hn1.form; subst hv1; have hW1 : Below W.heap.size W w1 := below_step hb1 (by repeat (first | exact Below.refl _ _ | refine Below.drew ?_ | refine below_alloc _ ?_)))) | (go_at_call 40; go_must (refine (negative_nv _ 1 _ 874 3 1283 _ hn2 (by decide)).mono ?_; rintro e w3 ⟨v3, rfl, hn3, hb3⟩; obtain ⟨g3, n3, c3, hv3⟩ := hn3.form; subst hv3; have hW3 : Below W.heap.size W w3 := below_step hb3 (by repeat (first | exact hW2 | exact hW1 | exact Below.refl _ _ | refine Below.drew ?_ | refine below_alloc _ ?_)); have hj1 : Nv w3 (.slice (some ⟨g1, 0, none⟩) n1 c1) 1 (X * T) 874 3 1283 := hk1.kept hb3)) | (go_at_call 39; go_must (refine (total22_nv _ _ _ _ _ _ hj1.toPv hn3).mono ?_; rintro e w4 ⟨v4, rfl, hn4, hb4⟩; obtain ⟨g4, n4, c4, hv4⟩ := hn4.form; subst hv4; have hW4 : Below W.heap.size W w4 := below_step hb4 (by repeat (first | exact hW3 | exact hW2 | exact hW1 | exact Below.refl _ _ | refine Below.drew ?_ | refine below_alloc _ ?_)))))
  all_goals
    go_wp2
    go_ret
    exact ⟨_, rfl, hn4.to Int.sub_eq_add_neg.symm, hw.trans (hW4.mono hw.size)⟩

/-- The turn in units. -/
def turnI (AX AY BX BY CX CY : Int) : Int := (BX - AX) * (CY - AY) - (BY - AY) * (CX - AX)

set_option maxHeartbeats 4000000 in
set_option maxRecDepth 100000 in
theorem turn_any (ax ay bx by' cx cy : Nat) (AX AY BX BY CX CY : Int) (w : World) (hax : Co ax AX) (hay : Co ay AY) (hbx : Co bx BX) (hby : Co by' BY) (hcx : Co cx CX) (hcy : Co cy CY) :
    Calls Tryz.prog 36 #[.agg #[.float .f64 ax, .float .f64 ay], .agg #[.float .f64 bx, .float .f64 by'], .agg #[.float .f64 cx, .float .f64 cy]] w fun e w' => e = .returned (.int .i64 (sgn (turnI AX AY BX BY CX CY))) ∧ Below w.heap.size w w' := by
  go_enter Tryz.func36, Tryz.ntmps36
  go_upto_region 1 with fail
  generalize hW : World.alloc (World.alloc (World.alloc w _) _) _ = W
  have hWs : W.heap.size = w.heap.size + 3 := by subst hW; simp
  have hw : Below w.heap.size w W := by
    subst hW
    exact ((((Below.refl _ w).alloc (by simp <;> omega) _).alloc (by simp <;> omega) _).alloc (by simp <;> omega) _)
  have KS : ∀ w', Below W.heap.size W w' → (w'.cell? ⟨w.heap.size, 0, none⟩ = some (.float .f64 ax) ∧ w'.cell? ⟨w.heap.size, 1, none⟩ = some (.float .f64 ay) ∧ w'.cell? ⟨w.heap.size + 1, 0, none⟩ = some (.float .f64 bx) ∧ w'.cell? ⟨w.heap.size + 1, 1, none⟩ = some (.float .f64 by') ∧ w'.cell? ⟨w.heap.size + 1 + 1, 0, none⟩ = some (.float .f64 cx) ∧ w'.cell? ⟨w.heap.size + 1 + 1, 1, none⟩ = some (.float .f64 cy)) := by
    intro w' hb
    obtain ⟨hc, _⟩ := bcell hb
    refine ⟨?_, ?_, ?_, ?_, ?_, ?_⟩
    all_goals (rw [hc _ _ (by omega)]; subst hW; simp [go_sem])
  clear hW hWs
  have hS0 := KS W (Below.refl _ _)
  go_region_held3 (fun w' : World => (w'.cell? ⟨w.heap.size, 0, none⟩ = some (.float .f64 ax) ∧ w'.cell? ⟨w.heap.size, 1, none⟩ = some (.float .f64 ay) ∧ w'.cell? ⟨w.heap.size + 1, 0, none⟩ = some (.float .f64 bx) ∧ w'.cell? ⟨w.heap.size + 1, 1, none⟩ = some (.float .f64 by') ∧ w'.cell? ⟨w.heap.size + 1 + 1, 0, none⟩ = some (.float .f64 cx) ∧ w'.cell? ⟨w.heap.size + 1 + 1, 1, none⟩ = some (.float .f64 cy))) (exact KS _ (by repeat (first | exact hW3 | exact hW2 | exact hW1 | exact Below.refl _ _ | refine Below.drew ?_ | refine below_alloc _ ?_))) (first | (go_at_call 38; have gg1 := hb1; go_must (refine (wayFrom_any ax ay cx cy AX AY CX CY _ hax hay hcx hcy).mono ?_; rintro e w2 ⟨v2, u2, rfl, hn2, hm2, hb2⟩; obtain ⟨g2, n2, c2, hv2⟩ := hn2.form; subst hv2; obtain ⟨i2, j2, k2, hu2⟩ := hm2.form; subst hu2; have hW2 : Below W.heap.size W w2 := below_step hb2 (by repeat (first | exact hW1 | exact Below.refl _ _ | refine Below.drew ?_ | refine below_alloc _ ?_)); have hk1 := hn1.kept hb2; have hl1 := hm1.kept hb2)) | (go_at_call 38; go_must (refine (wayFrom_any ax ay bx by' AX AY BX BY _ hax hay hbx hby).mono ?_; rintro e w1 ⟨v1, u1, rfl, hn1, hm1, hb1⟩; obtain ⟨g1, n1, c1, hv1⟩ := hn1.form; subst hv1; obtain ⟨i1, j1, k1, hu1⟩ := hm1.form; subst hu1; have hW1 : Below W.heap.size W w1 := below_step hb1 (by repeat (first | exact Below.refl _ _ | refine Below.drew ?_ | refine below_alloc _ ?_)))) | (go_at_call 43; go_must (refine (cross_any _ _ _ _ _ _ _ _ _ hk1 hl1 hn2 hm2).mono ?_; rintro e w3 ⟨v3, rfl, hn3, hb3⟩; obtain ⟨g3, n3, c3, hv3⟩ := hn3.form; subst hv3; have hW3 : Below W.heap.size W w3 := below_step hb3 (by repeat (first | exact hW2 | exact hW1 | exact Below.refl _ _ | refine Below.drew ?_ | refine below_alloc _ ?_)))) | (go_at_call 41; go_must (refine (sign_nv _ 1 _ 874 4 1288 _ hn3 (by decide)).mono ?_; rintro e w4 ⟨rfl, rfl⟩)))
  all_goals
    go_wp2
    go_ret
    exact ⟨rfl, hw.trans (hW3.mono hw.size)⟩

end Go.Proofs.YtbjjkfmdkmbcfaaGreat
