import Derived.Test.YtbjjkfmdkmbcfaaGreatMWz
import Derived.Test.YtbjjkfmdkmbcfaaGreatMSc
namespace Go.Proofs.YtbjjkfmdkmbcfaaGreat
open Go.RowKit
open PlRd

attribute [local go_sem ↓] Go.wp_at_zero Go.wp_at_succ

theorem ord_cr {a b : Nat} {x y : Int} (h : Cr a x) (k : Cr b y) : (x < y ∧ FloatKind.f64.format.order a b = some .lt) ∨ (x = y ∧ FloatKind.f64.format.order a b = some .eq) ∨ (y < x ∧ FloatKind.f64.format.order a b = some .gt) := by
  have hE := EU_pos
  rcases ord_of h.1 k.1 with ⟨h1, h2⟩ | ⟨h1, h2⟩ | ⟨h1, h2⟩
  · exact .inl ⟨Int.lt_of_mul_lt_mul_right h1 (Int.le_of_lt hE), h2⟩
  · exact .inr (.inl ⟨Int.eq_of_mul_eq_mul_right (by omega) h1, h2⟩)
  · exact .inr (.inr ⟨Int.lt_of_mul_lt_mul_right h1 (Int.le_of_lt hE), h2⟩)

theorem crs_down {UX UY VX VY PX PY : Int} (h : VY < UY) : crsT UX UY VX VY PX PY = if VY ≤ PY ∧ PY < UY then trn VX VY UX UY PX PY else 0 := by
  unfold crsT crsC
  rw [show trnS VX VY UX UY PX PY = trn VX VY UX UY PX PY from rfl]
  generalize trnS UX UY VX VY PX PY = s
  generalize trn VX VY UX UY PX PY = t
  unfold PlRd.sgn
  by_cases h1 : VY ≤ PY <;> by_cases h2 : PY < UY
  · rw [if_neg (by split <;> split <;> (try split) <;> omega), if_pos (by constructor <;> (repeat split) <;> omega), if_pos ⟨h1, h2⟩]
  · rw [if_neg (by (repeat split) <;> omega), if_neg (by (repeat split) <;> omega), if_neg (by omega)]
  · rw [if_neg (by (repeat split) <;> omega), if_neg (by (repeat split) <;> omega), if_neg (by omega)]
  · rw [if_neg (by (repeat split) <;> omega), if_neg (by (repeat split) <;> omega), if_neg (by omega)]

theorem crs_up {UX UY VX VY PX PY : Int} (h : UY ≤ VY) : crsT UX UY VX VY PX PY = if UY ≤ PY ∧ PY < VY then trn UX UY VX VY PX PY else 0 := by
  unfold crsT crsC
  rw [show trnS UX UY VX VY PX PY = trn UX UY VX VY PX PY from rfl]
  generalize trnS VX VY UX UY PX PY = s
  generalize trn UX UY VX VY PX PY = t
  unfold PlRd.sgn
  by_cases h1 : UY ≤ PY <;> by_cases h2 : PY < VY
  · rw [if_pos (by constructor <;> (repeat split) <;> omega), if_pos ⟨h1, h2⟩]
  · rw [if_neg (by (repeat split) <;> omega), if_neg (by (repeat split) <;> omega), if_neg (by omega)]
  · rw [if_neg (by (repeat split) <;> omega), if_neg (by (repeat split) <;> omega), if_neg (by omega)]
  · rw [if_neg (by (repeat split) <;> omega), if_neg (by (repeat split) <;> omega), if_neg (by omega)]

/-- A spot that lies in memory. -/
structure SpAt (w : World) (p x y : Nat) : Prop where
  lt : p < w.heap.size
  cs : w.cell? ⟨p, 0, none⟩ = some (.float .f64 x) ∧ w.cell? ⟨p, 1, none⟩ = some (.float .f64 y)
  fr : w.frozen? ⟨p, 0, none⟩ = false ∧ w.frozen? ⟨p, 1, none⟩ = false

theorem SpAt.drewn {Z : World} {b x y : Nat} (h : SpAt Z b x y) : SpAt Z.drew b x y := ⟨h.lt, h.cs, h.fr⟩

theorem SpAt.store {Z : World} {p b x y : Nat} {u v : Value} (h : SpAt Z b x y) (hne : b ≠ p) : SpAt ((Z.setCell ⟨p, 0, none⟩ u).setCell ⟨p, 1, none⟩ v) b x y := by
  have c0 := h.cs
  have f0 := h.fr
  refine ⟨by simpa using h.lt, ?_, ?_⟩
  · rw [cell_store_other hne, cell_store_other hne]; exact c0
  · exact ⟨by simpa [go_sem, hne] using f0.1, by simpa [go_sem, hne] using f0.2⟩

theorem SpAt.put {Z : World} {p x y x' y' : Nat} (h : SpAt Z p x y) : SpAt ((Z.setCell ⟨p, 0, none⟩ (.float .f64 x')).setCell ⟨p, 1, none⟩ (.float .f64 y')) p x' y' := by
  have c0 := h.cs
  have f0 := h.fr
  exact ⟨by simpa using h.lt, by simp [go_sem, c0.1, c0.2], by simp [go_sem, f0.1, f0.2]⟩

set_option maxHeartbeats 8000000 in
set_option maxRecDepth 100000 in
theorem crosses_cr (ux uy vx vy px py : Nat) (UX UY VX VY PX PY : Int) (w : World) (hux : Cr ux UX) (huy : Cr uy UY) (hvx : Cr vx VX) (hvy : Cr vy VY) (hpx : Cr px PX) (hpy : Cr py PY) :
    Calls Tryz.prog 65 #[.agg #[.float .f64 ux, .float .f64 uy], .agg #[.float .f64 vx, .float .f64 vy], .agg #[.float .f64 px, .float .f64 py]] w fun e w' => e = .returned (.bool (decide (0 < crsT UX UY VX VY PX PY))) ∧ Below w.heap.size w w' := by
  obtain ⟨bb, hbb⟩ : ∃ b, b = decide (0 < crsT UX UY VX VY PX PY) := ⟨_, rfl⟩
  rw [← hbb]
  have HBB : Hid (bb = decide (0 < crsT UX UY VX VY PX PY)) := hbb
  clear hbb
  obtain ⟨s, hs⟩ : ∃ s, s = trn UX UY VX VY PX PY := ⟨_, rfl⟩
  obtain ⟨t, ht⟩ : ∃ t, t = trn VX VY UX UY PX PY := ⟨_, rfl⟩
  have HSS : Hid (s = trn UX UY VX VY PX PY) := hs
  have HTT : Hid (t = trn VX VY UX UY PX PY) := ht
  have HS : Hid (∀ W, Calls Tryz.prog 36 #[.agg #[.float .f64 ux, .float .f64 uy], .agg #[.float .f64 vx, .float .f64 vy], .agg #[.float .f64 px, .float .f64 py]] W fun e w' => e = .returned (.int .i64 s) ∧ Below W.heap.size W w') := fun W => by rw [hs]; exact turn_cr ux uy vx vy px py UX UY VX VY PX PY W hux huy hvx hvy hpx hpy
  have HT : Hid (∀ W, Calls Tryz.prog 36 #[.agg #[.float .f64 vx, .float .f64 vy], .agg #[.float .f64 ux, .float .f64 uy], .agg #[.float .f64 px, .float .f64 py]] W fun e w' => e = .returned (.int .i64 t) ∧ Below W.heap.size W w') := fun W => by rw [ht]; exact turn_cr vx vy ux uy px py VX VY UX UY PX PY W hvx hvy hux huy hpx hpy
  have o1 := ord_cr hvy huy
  have o2v := ord_cr hvy hpy
  have o2u := ord_cr huy hpy
  have o3v := ord_cr hpy hvy
  have o3u := ord_cr hpy huy
  clear hs ht hux huy hvx hvy hpx hpy
  go_enter Tryz.func65, Tryz.ntmps65
  go_upto_region 1 with fail
  generalize hW : World.alloc (World.alloc (World.alloc w _) _) _ = W
  have hWs : W.heap.size = w.heap.size + 3 := by subst hW; simp
  have hw : Below w.heap.size w W := by
    subst hW
    exact ((((Below.refl _ w).alloc (by simp <;> omega) _).alloc (by simp <;> omega) _).alloc (by simp <;> omega) _)
  have KS : ∀ w', Below W.heap.size W w' → (w'.cell? ⟨w.heap.size, 0, none⟩ = some (.float .f64 ux) ∧ w'.cell? ⟨w.heap.size, 1, none⟩ = some (.float .f64 uy) ∧ w'.cell? ⟨w.heap.size + 1, 0, none⟩ = some (.float .f64 vx) ∧ w'.cell? ⟨w.heap.size + 1, 1, none⟩ = some (.float .f64 vy) ∧ w'.cell? ⟨w.heap.size + 1 + 1, 0, none⟩ = some (.float .f64 px) ∧ w'.cell? ⟨w.heap.size + 1 + 1, 1, none⟩ = some (.float .f64 py)) := by
    intro w' hb
    obtain ⟨hc, _⟩ := bcell hb
    refine ⟨?_, ?_, ?_, ?_, ?_, ?_⟩
    all_goals (rw [hc _ _ (by omega)]; subst hW; simp [go_sem])
  clear hW hWs
  have hS0 := KS W (Below.refl _ _)
  go_cut [7, 8] (fun v7 v8 wc => ∃ p q, v7 = .pointer (some ⟨p, 0, none⟩) ∧ v8 = .pointer (some ⟨q, 0, none⟩) ∧ SpAt wc p ux uy ∧ SpAt wc q vx vy ∧ p ≠ q ∧ W.heap.size ≤ p ∧ W.heap.size ≤ q ∧ Below W.heap.size W wc)
  case first =>
    clear o1 o2v o2u o3v o3u
    go_region_held3 (fun w' : World => (w'.cell? ⟨w.heap.size, 0, none⟩ = some (.float .f64 ux) ∧ w'.cell? ⟨w.heap.size, 1, none⟩ = some (.float .f64 uy) ∧ w'.cell? ⟨w.heap.size + 1, 0, none⟩ = some (.float .f64 vx) ∧ w'.cell? ⟨w.heap.size + 1, 1, none⟩ = some (.float .f64 vy))) (exact ⟨(KS _ (by repeat (with_reducible first | refine Below.setCell ?_ (by first | (dsimp only; omega) | omega | (simp; done) | (simp; omega)) _ | refine below_alloc _ ?_ | refine Below.drew ?_ | exact hbc | exact Below.refl _ _))).1, (KS _ (by repeat (with_reducible first | refine Below.setCell ?_ (by first | (dsimp only; omega) | omega | (simp; done) | (simp; omega)) _ | refine below_alloc _ ?_ | refine Below.drew ?_ | exact hbc | exact Below.refl _ _))).2.1, (KS _ (by repeat (with_reducible first | refine Below.setCell ?_ (by first | (dsimp only; omega) | omega | (simp; done) | (simp; omega)) _ | refine below_alloc _ ?_ | refine Below.drew ?_ | exact hbc | exact Below.refl _ _))).2.2.1, (KS _ (by repeat (with_reducible first | refine Below.setCell ?_ (by first | (dsimp only; omega) | omega | (simp; done) | (simp; omega)) _ | refine below_alloc _ ?_ | refine Below.drew ?_ | exact hbc | exact Below.refl _ _))).2.2.2.1⟩) (fail)
    all_goals
      go_wp2_with fail
      go_meet
      exact ⟨_, _, rfl, rfl, ⟨by simp <;> omega, by simp [go_sem], by simp [go_sem]⟩, ⟨by simp <;> omega, by simp [go_sem], by simp [go_sem]⟩, by omega, by omega, by omega, (by repeat (with_reducible first | refine Below.setCell ?_ (by first | (dsimp only; omega) | omega | (simp; done) | (simp; omega)) _ | refine below_alloc _ ?_ | refine Below.drew ?_ | exact hbc | exact Below.refl _ _))⟩
  case rest =>
    obtain ⟨p, q, hv7, hv8, hp, hq, hpq, hbp, hbq, hbc⟩ := hcut
    subst hv7 hv8
    have hS1 := KS wc hbc
    rcases o1 with ⟨h1, p1⟩ | ⟨h1, p1⟩ | ⟨h1, p1⟩
    · skip
      clear o2u o3v HS HSS
      have cp := hp.cs
      have fp := hp.fr
      have cq := hq.cs
      have fq := hq.fr
      have hqp := Ne.symm hpq
      go_wp2_with fail
      go_region_held3 (fun w' : World => (w'.cell? ⟨w.heap.size, 0, none⟩ = some (.float .f64 ux) ∧ w'.cell? ⟨w.heap.size, 1, none⟩ = some (.float .f64 uy) ∧ w'.cell? ⟨w.heap.size + 1, 0, none⟩ = some (.float .f64 vx) ∧ w'.cell? ⟨w.heap.size + 1, 1, none⟩ = some (.float .f64 vy))) (exact ⟨(KS _ (by repeat (with_reducible first | refine Below.setCell ?_ (by first | (dsimp only; omega) | omega | (simp; done) | (simp; omega)) _ | refine below_alloc _ ?_ | refine Below.drew ?_ | exact hbc | exact Below.refl _ _))).1, (KS _ (by repeat (with_reducible first | refine Below.setCell ?_ (by first | (dsimp only; omega) | omega | (simp; done) | (simp; omega)) _ | refine below_alloc _ ?_ | refine Below.drew ?_ | exact hbc | exact Below.refl _ _))).2.1, (KS _ (by repeat (with_reducible first | refine Below.setCell ?_ (by first | (dsimp only; omega) | omega | (simp; done) | (simp; omega)) _ | refine below_alloc _ ?_ | refine Below.drew ?_ | exact hbc | exact Below.refl _ _))).2.2.1, (KS _ (by repeat (with_reducible first | refine Below.setCell ?_ (by first | (dsimp only; omega) | omega | (simp; done) | (simp; omega)) _ | refine below_alloc _ ?_ | refine Below.drew ?_ | exact hbc | exact Below.refl _ _))).2.2.2.1⟩) (fail)
      have hp2 : SpAt ((((wc.setCell ⟨p, 0, none⟩ (.float .f64 vx)).setCell ⟨p, 1, none⟩ (.float .f64 vy)).setCell ⟨q, 0, none⟩ (.float .f64 ux)).setCell ⟨q, 1, none⟩ (.float .f64 uy)).drew p vx vy := ((hp.put (x' := vx) (y' := vy)).store (u := .float .f64 ux) (v := .float .f64 uy) hpq).drewn
      have hq2 : SpAt ((((wc.setCell ⟨p, 0, none⟩ (.float .f64 vx)).setCell ⟨p, 1, none⟩ (.float .f64 vy)).setCell ⟨q, 0, none⟩ (.float .f64 ux)).setCell ⟨q, 1, none⟩ (.float .f64 uy)).drew q ux uy := ((hq.store (u := .float .f64 vx) (v := .float .f64 vy) (Ne.symm hpq)).put (x' := ux) (y' := uy)).drewn
      have hbZ : Below W.heap.size W ((((wc.setCell ⟨p, 0, none⟩ (.float .f64 vx)).setCell ⟨p, 1, none⟩ (.float .f64 vy)).setCell ⟨q, 0, none⟩ (.float .f64 ux)).setCell ⟨q, 1, none⟩ (.float .f64 uy)).drew := ((((hbc.setCell hbp _).setCell hbp _).setCell hbq _).setCell hbq _).drew
      generalize World.drew _ = Z at hp2 hq2 hbZ ⊢
      clear cp fp cq fq
      have hc2 := hp2.cs
      have hd2 := hq2.cs
      have hS2 := KS Z hbZ
      rcases o2v with ⟨h2, p2⟩ | ⟨h2, p2⟩ | ⟨h2, p2⟩ <;> rcases o3u with ⟨h3, p3⟩ | ⟨h3, p3⟩ | ⟨h3, p3⟩
      all_goals
        first
          | (exfalso; omega)
          | skip
      all_goals
        have HR : Hid (bb = (decide (VY ≤ PY ∧ PY < UY) && decide (0 < t))) := by
          unfold Hid
          rw [HBB.out, crs_down (by omega), ← HTT.out]
          by_cases hc : VY ≤ PY ∧ PY < UY
          · rw [if_pos hc]; simp [hc]
          · rw [if_neg hc]; simp [hc]
        go_wp2_with (first | (go_at_call 36; go_must (refine (HT.out _).mono ?_; rintro e w3 ⟨rfl, hb3⟩; have hb3' : Below W.heap.size W w3 := below_step hb3 hbZ)))
        go_ret
        exact ⟨ret_bool (by rw [HR.out]; simp <;> omega), hw.trans (Below.mono (B := W.heap.size) (by first | exact hb3' | exact hbZ) hw.size)⟩
    · skip
      obtain ⟨Z, hZ⟩ : ∃ Z, Z = wc := ⟨_, rfl⟩
      subst hZ
      have hp2 := hp
      have hq2 := hq
      have hbZ := hbc
      clear o2v o3u HT HTT
      have hc2 := hp2.cs
      have hd2 := hq2.cs
      have hS2 := KS Z hbZ
      rcases o2u with ⟨h2, p2⟩ | ⟨h2, p2⟩ | ⟨h2, p2⟩ <;> rcases o3v with ⟨h3, p3⟩ | ⟨h3, p3⟩ | ⟨h3, p3⟩
      all_goals
        first
          | (exfalso; omega)
          | skip
      all_goals
        have HR : Hid (bb = (decide (UY ≤ PY ∧ PY < VY) && decide (0 < s))) := by
          unfold Hid
          rw [HBB.out, crs_up (by omega), ← HSS.out]
          by_cases hc : UY ≤ PY ∧ PY < VY
          · rw [if_pos hc]; simp [hc]
          · rw [if_neg hc]; simp [hc]
        go_wp2_with (first | (go_at_call 36; go_must (refine (HS.out _).mono ?_; rintro e w3 ⟨rfl, hb3⟩; have hb3' : Below W.heap.size W w3 := below_step hb3 hbZ)))
        go_ret
        exact ⟨ret_bool (by rw [HR.out]; simp <;> omega), hw.trans (Below.mono (B := W.heap.size) (by first | exact hb3' | exact hbZ) hw.size)⟩
    · skip
      obtain ⟨Z, hZ⟩ : ∃ Z, Z = wc := ⟨_, rfl⟩
      subst hZ
      have hp2 := hp
      have hq2 := hq
      have hbZ := hbc
      clear o2v o3u HT HTT
      have hc2 := hp2.cs
      have hd2 := hq2.cs
      have hS2 := KS Z hbZ
      rcases o2u with ⟨h2, p2⟩ | ⟨h2, p2⟩ | ⟨h2, p2⟩ <;> rcases o3v with ⟨h3, p3⟩ | ⟨h3, p3⟩ | ⟨h3, p3⟩
      all_goals
        first
          | (exfalso; omega)
          | skip
      all_goals
        have HR : Hid (bb = (decide (UY ≤ PY ∧ PY < VY) && decide (0 < s))) := by
          unfold Hid
          rw [HBB.out, crs_up (by omega), ← HSS.out]
          by_cases hc : UY ≤ PY ∧ PY < VY
          · rw [if_pos hc]; simp [hc]
          · rw [if_neg hc]; simp [hc]
        go_wp2_with (first | (go_at_call 36; go_must (refine (HS.out _).mono ?_; rintro e w3 ⟨rfl, hb3⟩; have hb3' : Below W.heap.size W w3 := below_step hb3 hbZ)))
        go_ret
        exact ⟨ret_bool (by rw [HR.out]; simp <;> omega), hw.trans (Below.mono (B := W.heap.size) (by first | exact hb3' | exact hbZ) hw.size)⟩

end Go.Proofs.YtbjjkfmdkmbcfaaGreat
