import Derived.Test.YtbjjkfmdkmbcfaaGreatLa
import Derived.Test.YtbjjkfmdkmbcfaaGreatOm
namespace Go.Proofs.YtbjjkfmdkmbcfaaGreat
open Go.RowKit
open PlLv

attribute [local go_sem ↓] Go.wp_at_zero Go.wp_at_succ

theorem infoPt : (Tryz.prog.info? 24).map (fun i => (i.zero, i.size, i.bytes)) = some (some (.agg #[.int .u64 0, .int .u64 0]), 2, 16) := by kernel_rfl

theorem own_new6 {w : World} {o : Obj} {base n : Nat} {a b c d e f : Value} (hn : n = w.heap.size) (hb : base ≤ w.heap.size) : ((w.alloc (.cells #[a, b, c, d, e, f] 24)).alloc o).ownsRow base 24 2 (.slice (some ⟨n, 0, none⟩) 3 3) 3 [a, b, c, d, e, f] := by
  subst hn
  refine ⟨rfl, .inr ⟨w.heap.size, 3, #[a, b, c, d, e, f], rfl, hb, ?_, by decide, by decide, rfl, rfl⟩⟩
  rw [heap_alloc_old _ _ (by simp), heap_alloc_new]

theorem own8 {w : World} {b : Nat} {v : Value} {xs : List Value} (h : w.ownsRow b 24 2 v 4 xs) : ∃ g c, v = .slice (some ⟨g, 0, none⟩) 4 c ∧ g < w.heap.size ∧ ∀ j, j < 8 → w.cell? ⟨g, j, none⟩ = xs[j]? := by
  have h0 := h
  rcases h.2 with ⟨_, hn⟩ | ⟨g, c, cur, rfl, _, hg, _⟩
  · cases hn
  · exact ⟨g, c, rfl, lt_of_row hg, fun j hj => h0.cellAt j (by omega)⟩

theorem points4_no (g c ax ay bx by' cx cy dx dy : Nat) (w : World) (h64 : ∀ p ∈ [(ax, ay), (bx, by'), (cx, cy), (dx, dy)], p.1 < 2 ^ 64 ∧ p.2 < 2 ^ 64) (h0 : w.cell? ⟨g, 0, none⟩ = some (.int .u64 ax)) (h1 : w.cell? ⟨g, 1, none⟩ = some (.int .u64 ay)) (h2 : w.cell? ⟨g, 2, none⟩ = some (.int .u64 bx)) (h3 : w.cell? ⟨g, 3, none⟩ = some (.int .u64 by')) (h4 : w.cell? ⟨g, 4, none⟩ = some (.int .u64 cx)) (h5 : w.cell? ⟨g, 5, none⟩ = some (.int .u64 cy)) (h6 : w.cell? ⟨g, 6, none⟩ = some (.int .u64 dx)) (h7 : w.cell? ⟨g, 7, none⟩ = some (.int .u64 dy)) (hg : g < w.heap.size) (hok : okPts [(ax, ay), (bx, by'), (cx, cy), (dx, dy)] = false) :
    Calls Tryz.prog 15 #[.slice (some ⟨g, 0, none⟩) 4 c] w fun e w' => Below w.heap.size w w' ∧ e = .returned (.tuple #[.slice none 0 0, .bool false]) := by
  refine (points_walk g 4 c [(ax, ay), (bx, by'), (cx, cy), (dx, dy)] w rfl (by decide) hg (pts4 h0 h1 h2 h3 h4 h5 h6 h7) h64).mono ?_
  rintro e w' ⟨hb, ⟨h1, _⟩ | ⟨_, rfl⟩⟩
  · rw [hok] at h1; cases h1
  · exact ⟨hb, rfl⟩

theorem own16 {w : World} {b : Nat} {v : Value} {xs : List Value} (h : w.ownsRow b 55 4 v 4 xs) : ∃ g c, v = .slice (some ⟨g, 0, none⟩) 4 c ∧ g < w.heap.size ∧ ∀ j, j < 16 → w.cell? ⟨g, j, none⟩ = xs[j]? := by
  have h0 := h
  rcases h.2 with ⟨_, hn⟩ | ⟨g, c, cur, rfl, _, hg, _⟩
  · cases hn
  · exact ⟨g, c, rfl, lt_of_row hg, fun j hj => h0.cellAt j (by omega)⟩

/-- Four points of the reference, as they lie in memory. -/
structure Q4 (w : World) (g : Nat) (a b c d : PB) : Prop where
  lt : g < w.heap.size
  cs : w.cell? ⟨g, 0, none⟩ = some (.bool a.nx) ∧ w.cell? ⟨g, 1, none⟩ = some (a.vx) ∧ w.cell? ⟨g, 2, none⟩ = some (.bool a.ny) ∧ w.cell? ⟨g, 3, none⟩ = some (a.vy) ∧ w.cell? ⟨g, 4, none⟩ = some (.bool b.nx) ∧ w.cell? ⟨g, 5, none⟩ = some (b.vx) ∧ w.cell? ⟨g, 6, none⟩ = some (.bool b.ny) ∧ w.cell? ⟨g, 7, none⟩ = some (b.vy) ∧ w.cell? ⟨g, 8, none⟩ = some (.bool c.nx) ∧ w.cell? ⟨g, 9, none⟩ = some (c.vx) ∧ w.cell? ⟨g, 10, none⟩ = some (.bool c.ny) ∧ w.cell? ⟨g, 11, none⟩ = some (c.vy) ∧ w.cell? ⟨g, 12, none⟩ = some (.bool d.nx) ∧ w.cell? ⟨g, 13, none⟩ = some (d.vx) ∧ w.cell? ⟨g, 14, none⟩ = some (.bool d.ny) ∧ w.cell? ⟨g, 15, none⟩ = some (d.vy)

theorem Q4.kept {w w' : World} {g : Nat} {a b c d : PB} (h : Q4 w g a b c d) (hb : Below w.heap.size w w') : Q4 w' g a b c d := by
  have hc : ∀ j, w'.cell? ⟨g, j, none⟩ = w.cell? ⟨g, j, none⟩ := fun j => hb.cell (p := ⟨g, j, none⟩) h.lt
  refine ⟨Nat.lt_of_lt_of_le h.lt hb.size, ?_⟩
  simp only [hc]
  exact h.cs

theorem points4_ok (g c0 ax ay bx by' cx cy dx dy : Nat) (w : World) (h64 : ∀ p ∈ [(ax, ay), (bx, by'), (cx, cy), (dx, dy)], p.1 < 2 ^ 64 ∧ p.2 < 2 ^ 64) (h0 : w.cell? ⟨g, 0, none⟩ = some (.int .u64 ax)) (h1 : w.cell? ⟨g, 1, none⟩ = some (.int .u64 ay)) (h2 : w.cell? ⟨g, 2, none⟩ = some (.int .u64 bx)) (h3 : w.cell? ⟨g, 3, none⟩ = some (.int .u64 by')) (h4 : w.cell? ⟨g, 4, none⟩ = some (.int .u64 cx)) (h5 : w.cell? ⟨g, 5, none⟩ = some (.int .u64 cy)) (h6 : w.cell? ⟨g, 6, none⟩ = some (.int .u64 dx)) (h7 : w.cell? ⟨g, 7, none⟩ = some (.int .u64 dy)) (hg : g < w.heap.size) (hok : okPts [(ax, ay), (bx, by'), (cx, cy), (dx, dy)] = true) :
    Calls Tryz.prog 15 #[.slice (some ⟨g, 0, none⟩) 4 c0] w fun e w' => Below w.heap.size w w' ∧ ∃ (g' c' : Nat) (a b c d : PB), e = .returned (.tuple #[.slice (some ⟨g', 0, none⟩) 4 c', .bool true]) ∧ Q4 w' g' a b c d ∧ PBs w' a (ax, ay) ∧ PBs w' b (bx, by') ∧ PBs w' c (cx, cy) ∧ PBs w' d (dx, dy) := by
  refine (points_walk g 4 c0 [(ax, ay), (bx, by'), (cx, cy), (dx, dy)] w rfl (by decide) hg (pts4 h0 h1 h2 h3 h4 h5 h6 h7) h64).mono ?_
  rintro e w' ⟨hb, ⟨_, v, qs, rfl, hown, hp⟩ | ⟨h1, _⟩⟩
  · have hl := hp.length
    match qs, hl, hp, hown with
    | [a, b, c, d], _, hp, hown =>
      obtain ⟨g', c', rfl, hlt, hc⟩ := own16 hown
      refine ⟨hb, g', c', a, b, c, d, rfl, ⟨hlt, hc 0 (by decide), hc 1 (by decide), hc 2 (by decide), hc 3 (by decide), hc 4 (by decide), hc 5 (by decide), hc 6 (by decide), hc 7 (by decide), hc 8 (by decide), hc 9 (by decide), hc 10 (by decide), hc 11 (by decide), hc 12 (by decide), hc 13 (by decide), hc 14 (by decide), hc 15 (by decide)⟩, hp.1, hp.2.1, hp.2.2.1, hp.2.2.2.1⟩
  · rw [hok] at h1; cases h1

set_option maxHeartbeats 8000000 in
set_option maxRecDepth 100000 in
theorem asked_meet_no (ax ay bx by' cx cy dx dy : Nat) (w : World) (h64 : ∀ p ∈ [(ax, ay), (bx, by'), (cx, cy), (dx, dy)], p.1 < 2 ^ 64 ∧ p.2 < 2 ^ 64) (hok : okPts [(ax, ay), (bx, by'), (cx, cy), (dx, dy)] = false) :
    Calls Tryz.prog 12 #[.agg #[.int .i64 4, .int .u64 ax, .int .u64 ay, .int .u64 bx, .int .u64 by', .int .u64 cx, .int .u64 cy, .int .u64 dx, .int .u64 dy, .slice none 0 0]] w fun e w' => Below w.heap.size w w' ∧ e = .returned (.bool true) := by
  obtain ⟨i0, hi, hz0, hz1, hz2⟩ := info_parts infoPt
  go_enter Tryz.func12, Tryz.ntmps12
  go_upto_region 1 with fail
  generalize hW : World.alloc w _ = W
  have hWs : W.heap.size = w.heap.size + 1 := by subst hW; simp
  have hw : Below w.heap.size w W := by subst hW; exact (Below.refl _ _).alloc (Nat.le_refl _) _
  have KS : ∀ w', Below W.heap.size W w' → (w'.cell? ⟨w.heap.size, 0, none⟩ = some (.int .i64 4) ∧ w'.cell? ⟨w.heap.size, 1, none⟩ = some (.int .u64 ax) ∧ w'.cell? ⟨w.heap.size, 2, none⟩ = some (.int .u64 ay) ∧ w'.cell? ⟨w.heap.size, 3, none⟩ = some (.int .u64 bx) ∧ w'.cell? ⟨w.heap.size, 4, none⟩ = some (.int .u64 by') ∧ w'.cell? ⟨w.heap.size, 5, none⟩ = some (.int .u64 cx) ∧ w'.cell? ⟨w.heap.size, 6, none⟩ = some (.int .u64 cy) ∧ w'.cell? ⟨w.heap.size, 7, none⟩ = some (.int .u64 dx) ∧ w'.cell? ⟨w.heap.size, 8, none⟩ = some (.int .u64 dy)) := by
    intro w' hb
    obtain ⟨hc, _⟩ := bcell hb
    refine ⟨?_, ?_, ?_, ?_, ?_, ?_, ?_, ?_, ?_⟩
    all_goals (rw [hc _ _ (by omega)]; subst hW; simp [go_sem])
  have hlt : w.heap.size < W.heap.size := by omega
  clear hW hWs
  have hS0 := KS W (Below.refl _ _)
  go_wp2_with (first | (at_builtin; go_must (refine wpList_append_own _ rfl _ _ 26 rfl W.heap.size 24 i0 _ 2 16 Tryz.underlying26 hi hz0 hz1 hz2 rfl (by decide) _ 3 [.int .u64 ax, .int .u64 ay, .int .u64 bx, .int .u64 by', .int .u64 cx, .int .u64 cy] rfl (own_new6 rfl (Nat.le_refl _)) ⟨_, 0, none⟩ 1 1 [.int .u64 dx, .int .u64 dy] rfl rfl (cells_two (by simp [go_sem]) (by simp [go_sem])) (by intro u hu; simp at hu; rcases hu with rfl | rfl <;> rfl) (by unfold maxLen; omega) (by omega) (by simp <;> omega) ?_; intro v' wA hA1 hA2 _; obtain ⟨gA, cA, hvA, hgA, hcA⟩ := own8 hA1; subst hvA; have hWA : Below W.heap.size W wA := Below.grown (((Below.refl _ W).alloc (Nat.le_refl _) _).alloc (by simp) _) hA2 (by simp <;> omega) (fun k hk => by cases hk; exact Nat.le_refl _); have hSA := KS wA hWA; clear hA1 hA2)) | (go_at_call 15; go_must (refine (points4_no gA cA ax ay bx by' cx cy dx dy _ h64 (hcA 0 (by decide)) (hcA 1 (by decide)) (hcA 2 (by decide)) (hcA 3 (by decide)) (hcA 4 (by decide)) (hcA 5 (by decide)) (hcA 6 (by decide)) (hcA 7 (by decide)) hgA hok).mono ?_; rintro e w1 ⟨hb1, rfl⟩; have hW1 : Below W.heap.size W w1 := below_step hb1 hWA; have hS1 := KS w1 hW1)) | (go_at_call 19; go_must (refine (meet_no ax ay bx by' cx cy dx dy _ h64 hok).mono ?_; rintro e w2 ⟨hb2, rfl⟩; have hW2 : Below W.heap.size W w2 := below_step hb2 hW1)) | (go_at_call 20; go_must (refine (num_any _ _).mono ?_; rintro e w3 ⟨rfl, rfl⟩)))
  go_ret
  exact ⟨hw.trans (hW2.mono hw.size), rfl⟩

set_option maxHeartbeats 8000000 in
set_option maxRecDepth 100000 in
theorem asked_meet_ok (ax ay bx by' cx cy dx dy : Nat) (w : World) (h64 : ∀ p ∈ [(ax, ay), (bx, by'), (cx, cy), (dx, dy)], p.1 < 2 ^ 64 ∧ p.2 < 2 ^ 64) (hok : okPts [(ax, ay), (bx, by'), (cx, cy), (dx, dy)] = true) :
    Calls Tryz.prog 12 #[.agg #[.int .i64 4, .int .u64 ax, .int .u64 ay, .int .u64 bx, .int .u64 by', .int .u64 cx, .int .u64 cy, .int .u64 dx, .int .u64 dy, .slice none 0 0]] w fun e w' => Below w.heap.size w w' ∧ e = .returned (.bool true) := by
  have hm : (mayB ax = true ∧ mayB ay = true) ∧ (mayB bx = true ∧ mayB by' = true) ∧ (mayB cx = true ∧ mayB cy = true) ∧ (mayB dx = true ∧ mayB dy = true) := by simpa [okPts] using hok
  have sax := crd_lt hm.1.1
  have say := crd_lt hm.1.2
  have sbx := crd_lt hm.2.1.1
  have sby := crd_lt hm.2.1.2
  have scx := crd_lt hm.2.2.1.1
  have scy := crd_lt hm.2.2.1.2
  have sdx := crd_lt hm.2.2.2.1
  have sdy := crd_lt hm.2.2.2.2
  clear hm
  have HO : Hid (∀ V, Calls Tryz.prog 19 #[.agg #[.int .u64 ax, .int .u64 ay], .agg #[.int .u64 bx, .int .u64 by'], .agg #[.int .u64 cx, .int .u64 cy], .agg #[.int .u64 dx, .int .u64 dy]] V fun e w' => Below V.heap.size V w' ∧ e = .returned (.tuple #[.int .i64 (meetP (crd ax) (crd ay) (crd bx) (crd by') (crd cx) (crd cy) (crd dx) (crd dy)), .int .i64 0])) := fun V => meetp_ok ax ay bx by' cx cy dx dy V h64 hok
  obtain ⟨i0, hi, hz0, hz1, hz2⟩ := info_parts infoPt
  go_enter Tryz.func12, Tryz.ntmps12
  go_upto_region 1 with fail
  generalize hW : World.alloc w _ = W
  have hWs : W.heap.size = w.heap.size + 1 := by subst hW; simp
  have hw : Below w.heap.size w W := by subst hW; exact (Below.refl _ _).alloc (Nat.le_refl _) _
  have KS : ∀ w', Below W.heap.size W w' → (w'.cell? ⟨w.heap.size, 0, none⟩ = some (.int .i64 4) ∧ w'.cell? ⟨w.heap.size, 1, none⟩ = some (.int .u64 ax) ∧ w'.cell? ⟨w.heap.size, 2, none⟩ = some (.int .u64 ay) ∧ w'.cell? ⟨w.heap.size, 3, none⟩ = some (.int .u64 bx) ∧ w'.cell? ⟨w.heap.size, 4, none⟩ = some (.int .u64 by') ∧ w'.cell? ⟨w.heap.size, 5, none⟩ = some (.int .u64 cx) ∧ w'.cell? ⟨w.heap.size, 6, none⟩ = some (.int .u64 cy) ∧ w'.cell? ⟨w.heap.size, 7, none⟩ = some (.int .u64 dx) ∧ w'.cell? ⟨w.heap.size, 8, none⟩ = some (.int .u64 dy)) := by
    intro w' hb
    obtain ⟨hc, _⟩ := bcell hb
    refine ⟨?_, ?_, ?_, ?_, ?_, ?_, ?_, ?_, ?_⟩
    all_goals (rw [hc _ _ (by omega)]; subst hW; simp [go_sem])
  have hlt : w.heap.size < W.heap.size := by omega
  clear hW hWs
  have hS0 := KS W (Below.refl _ _)
  go_wp2_with (first | (at_builtin; go_must (refine wpList_append_own _ rfl _ _ 26 rfl W.heap.size 24 i0 _ 2 16 Tryz.underlying26 hi hz0 hz1 hz2 rfl (by decide) _ 3 [.int .u64 ax, .int .u64 ay, .int .u64 bx, .int .u64 by', .int .u64 cx, .int .u64 cy] rfl (own_new6 rfl (Nat.le_refl _)) ⟨_, 0, none⟩ 1 1 [.int .u64 dx, .int .u64 dy] rfl rfl (cells_two (by simp [go_sem]) (by simp [go_sem])) (by intro u hu; simp at hu; rcases hu with rfl | rfl <;> rfl) (by unfold maxLen; omega) (by omega) (by simp <;> omega) ?_; intro v' wA hA1 hA2 _; obtain ⟨gA, cA, hvA, hgA, hcA⟩ := own8 hA1; subst hvA; have hWA : Below W.heap.size W wA := Below.grown (((Below.refl _ W).alloc (Nat.le_refl _) _).alloc (by simp) _) hA2 (by simp <;> omega) (fun k hk => by cases hk; exact Nat.le_refl _); have hSA := KS wA hWA; clear hA1 hA2)) | (go_at_call 15; go_must (refine (points4_ok gA cA ax ay bx by' cx cy dx dy _ h64 (hcA 0 (by decide)) (hcA 1 (by decide)) (hcA 2 (by decide)) (hcA 3 (by decide)) (hcA 4 (by decide)) (hcA 5 (by decide)) (hcA 6 (by decide)) (hcA 7 (by decide)) hgA hok).mono ?_; rintro e w1 ⟨hb1, g, c0, qa, qb, qc, qd, rfl, hQ, Pa, Pb, Pc, Pd⟩; have hW1 : Below W.heap.size W w1 := below_step hb1 hWA; have hS1 := KS w1 hW1)) | (go_at_call 19; go_must (refine (HO.out _).mono ?_; rintro e w2 ⟨hb2, rfl⟩; have hW2 : Below W.heap.size W w2 := below_step hb2 hW1; have hS2 := KS w2 hW2; replace hQ := hQ.kept hb2; replace Pa := Pa.kept hb2; replace Pb := Pb.kept hb2; replace Pc := Pc.kept hb2; replace Pd := Pd.kept hb2)))
  obtain ⟨nax, vax, lax, nay, vay, lay⟩ := qa
  obtain ⟨nbx, vbx, lbx, nby, vby, lby⟩ := qb
  obtain ⟨ncx, vcx, lcx, ncy, vcy, lcy⟩ := qc
  obtain ⟨ndx, vdx, ldx, ndy, vdy, ldy⟩ := qd
  obtain ⟨oax, kax, hfax⟩ := bg_form Pa.1; simp only at hfax; subst hfax
  obtain ⟨oay, kay, hfay⟩ := bg_form Pa.2; simp only at hfay; subst hfay
  obtain ⟨obx, kbx, hfbx⟩ := bg_form Pb.1; simp only at hfbx; subst hfbx
  obtain ⟨oby, kby, hfby⟩ := bg_form Pb.2; simp only at hfby; subst hfby
  obtain ⟨ocx, kcx, hfcx⟩ := bg_form Pc.1; simp only at hfcx; subst hfcx
  obtain ⟨ocy, kcy, hfcy⟩ := bg_form Pc.2; simp only at hfcy; subst hfcy
  obtain ⟨odx, kdx, hfdx⟩ := bg_form Pd.1; simp only at hfdx; subst hfdx
  obtain ⟨ody, kdy, hfdy⟩ := bg_form Pd.2; simp only at hfdy; subst hfdy
  have KQ : ∀ w', Below w2.heap.size w2 w' → (w'.cell? ⟨g, 0, none⟩ = some (.bool nax) ∧ w'.cell? ⟨g, 1, none⟩ = some (.slice oax lax.length kax) ∧ w'.cell? ⟨g, 2, none⟩ = some (.bool nay) ∧ w'.cell? ⟨g, 3, none⟩ = some (.slice oay lay.length kay) ∧ w'.cell? ⟨g, 4, none⟩ = some (.bool nbx) ∧ w'.cell? ⟨g, 5, none⟩ = some (.slice obx lbx.length kbx) ∧ w'.cell? ⟨g, 6, none⟩ = some (.bool nby) ∧ w'.cell? ⟨g, 7, none⟩ = some (.slice oby lby.length kby) ∧ w'.cell? ⟨g, 8, none⟩ = some (.bool ncx) ∧ w'.cell? ⟨g, 9, none⟩ = some (.slice ocx lcx.length kcx) ∧ w'.cell? ⟨g, 10, none⟩ = some (.bool ncy) ∧ w'.cell? ⟨g, 11, none⟩ = some (.slice ocy lcy.length kcy) ∧ w'.cell? ⟨g, 12, none⟩ = some (.bool ndx) ∧ w'.cell? ⟨g, 13, none⟩ = some (.slice odx ldx.length kdx) ∧ w'.cell? ⟨g, 14, none⟩ = some (.bool ndy) ∧ w'.cell? ⟨g, 15, none⟩ = some (.slice ody ldy.length kdy)) := fun w' hb => (hQ.kept hb).cs
  have hQ0 := KQ w2 (Below.refl _ _)
  clear hQ
  go_region_held3 (fun w' : World => (w'.cell? ⟨g, 0, none⟩ = some (.bool nax) ∧ w'.cell? ⟨g, 1, none⟩ = some (.slice oax lax.length kax) ∧ w'.cell? ⟨g, 2, none⟩ = some (.bool nay) ∧ w'.cell? ⟨g, 3, none⟩ = some (.slice oay lay.length kay) ∧ w'.cell? ⟨g, 4, none⟩ = some (.bool nbx) ∧ w'.cell? ⟨g, 5, none⟩ = some (.slice obx lbx.length kbx) ∧ w'.cell? ⟨g, 6, none⟩ = some (.bool nby) ∧ w'.cell? ⟨g, 7, none⟩ = some (.slice oby lby.length kby) ∧ w'.cell? ⟨g, 8, none⟩ = some (.bool ncx) ∧ w'.cell? ⟨g, 9, none⟩ = some (.slice ocx lcx.length kcx) ∧ w'.cell? ⟨g, 10, none⟩ = some (.bool ncy) ∧ w'.cell? ⟨g, 11, none⟩ = some (.slice ocy lcy.length kcy) ∧ w'.cell? ⟨g, 12, none⟩ = some (.bool ndx) ∧ w'.cell? ⟨g, 13, none⟩ = some (.slice odx ldx.length kdx) ∧ w'.cell? ⟨g, 14, none⟩ = some (.bool ndy) ∧ w'.cell? ⟨g, 15, none⟩ = some (.slice ody ldy.length kdy))) (exact KQ _ (by repeat (first | exact hV3 | exact Below.refl _ _ | refine Below.drew ?_))) (first | (go_at_call 26; go_must (refine (rmeet_any nax oax kax lax (crd ax) nay oay kay lay (crd ay) nbx obx kbx lbx (crd bx) nby oby kby lby (crd by') ncx ocx kcx lcx (crd cx) ncy ocy kcy lcy (crd cy) ndx odx kdx ldx (crd dx) ndy ody kdy ldy (crd dy) _ (Pa.1.kept (by repeat (first | exact Below.refl _ _ | refine Below.drew ?_))) sax (Pa.2.kept (by repeat (first | exact Below.refl _ _ | refine Below.drew ?_))) say (Pb.1.kept (by repeat (first | exact Below.refl _ _ | refine Below.drew ?_))) sbx (Pb.2.kept (by repeat (first | exact Below.refl _ _ | refine Below.drew ?_))) sby (Pc.1.kept (by repeat (first | exact Below.refl _ _ | refine Below.drew ?_))) scx (Pc.2.kept (by repeat (first | exact Below.refl _ _ | refine Below.drew ?_))) scy (Pd.1.kept (by repeat (first | exact Below.refl _ _ | refine Below.drew ?_))) sdx (Pd.2.kept (by repeat (first | exact Below.refl _ _ | refine Below.drew ?_))) sdy).mono ?_; rintro e w3 ⟨hb3, rfl⟩; have hV3 : Below w2.heap.size w2 w3 := below_step hb3 (by repeat (first | exact Below.refl _ _ | refine Below.drew ?_)))))
  all_goals
    go_wp2
    go_ret
    exact ⟨hw.trans ((below_step hV3 hW2).mono hw.size), rfl⟩

end Go.Proofs.YtbjjkfmdkmbcfaaGreat
