import Derived.Test.YtbjjkfmdkmbcfaaGreatMLa
import Derived.Laws.CopyOwn
namespace Go.Proofs.YtbjjkfmdkmbcfaaGreat
open Go.RowKit
open PlLv

attribute [local go_sem ↓] Go.wp_at_zero Go.wp_at_succ

theorem infoPt : (Tryz.prog.info? 24).map (fun i => (i.zero, i.size, i.bytes)) = some (some (.agg #[.int .u64 0, .int .u64 0]), 2, 16) := by kernel_rfl

theorem own_new6 {w : World} {o : Obj} {base n : Nat} {a b c d e f : Value} (hn : n = w.heap.size) (hb : base ≤ w.heap.size) : ((w.alloc (.cells #[a, b, c, d, e, f] 24)).alloc o).ownsRow base 24 2 (.slice (some ⟨n, 0, none⟩) 3 3) 3 [a, b, c, d, e, f] := by
  subst hn
  refine ⟨rfl, .inr ⟨w.heap.size, 3, #[a, b, c, d, e, f], rfl, hb, ?_, by decide, by decide, rfl, rfl⟩⟩
  rw [heap_alloc_old _ _ (by simp), heap_alloc_new]

theorem own8 {w : World} {b : Nat} {v : Value} {xs : List Value} (h : w.ownsRow b 24 2 v 4 xs) : ∃ g c, v = .slice (some ⟨g, 0, none⟩) 4 c ∧ g < w.heap.size ∧ ∀ j, j < 8 → w.cell? ⟨g, j, none⟩ = xs[j]? := by
  have h0 := h
  rcases h.2 with ⟨_, hn⟩ | ⟨g, c, cur, rfl, _, hg, _⟩
  · cases hn
  · exact ⟨g, c, rfl, lt_of_row hg, fun j hj => h0.cellAt j (by omega)⟩

theorem points4_no (g c ax ay bx by' cx cy dx dy : Nat) (w : World) (h64 : ∀ p ∈ [(ax, ay), (bx, by'), (cx, cy), (dx, dy)], p.1 < 2 ^ 64 ∧ p.2 < 2 ^ 64) (h0 : w.cell? ⟨g, 0, none⟩ = some (.int .u64 ax)) (h1 : w.cell? ⟨g, 1, none⟩ = some (.int .u64 ay)) (h2 : w.cell? ⟨g, 2, none⟩ = some (.int .u64 bx)) (h3 : w.cell? ⟨g, 3, none⟩ = some (.int .u64 by')) (h4 : w.cell? ⟨g, 4, none⟩ = some (.int .u64 cx)) (h5 : w.cell? ⟨g, 5, none⟩ = some (.int .u64 cy)) (h6 : w.cell? ⟨g, 6, none⟩ = some (.int .u64 dx)) (h7 : w.cell? ⟨g, 7, none⟩ = some (.int .u64 dy)) (hg : g < w.heap.size) (hok : okPts [(ax, ay), (bx, by'), (cx, cy), (dx, dy)] = false) :
    Calls Tryz.prog 15 #[.slice (some ⟨g, 0, none⟩) 4 c] w fun e w' => Below w.heap.size w w' ∧ e = .returned (.tuple #[.slice none 0 0, .bool false]) := by
  refine (points_walk g 4 c [(ax, ay), (bx, by'), (cx, cy), (dx, dy)] w rfl (by decide) hg (pts4 h0 h1 h2 h3 h4 h5 h6 h7) h64).mono ?_
  rintro e w' ⟨hb, ⟨h1, _⟩ | ⟨_, rfl⟩⟩
  · rw [hok] at h1; cases h1
  · exact ⟨hb, rfl⟩

theorem own16 {w : World} {b : Nat} {v : Value} {xs : List Value} (h : w.ownsRow b 55 4 v 4 xs) : ∃ g c, v = .slice (some ⟨g, 0, none⟩) 4 c ∧ g < w.heap.size ∧ ∀ j, j < 16 → w.cell? ⟨g, j, none⟩ = xs[j]? := by
  have h0 := h
  rcases h.2 with ⟨_, hn⟩ | ⟨g, c, cur, rfl, _, hg, _⟩
  · cases hn
  · exact ⟨g, c, rfl, lt_of_row hg, fun j hj => h0.cellAt j (by omega)⟩

/-- Four points of the reference, as they lie in memory. -/
structure Q4 (w : World) (g : Nat) (a b c d : PB) : Prop where
  lt : g < w.heap.size
  cs : w.cell? ⟨g, 0, none⟩ = some (.bool a.nx) ∧ w.cell? ⟨g, 1, none⟩ = some (a.vx) ∧ w.cell? ⟨g, 2, none⟩ = some (.bool a.ny) ∧ w.cell? ⟨g, 3, none⟩ = some (a.vy) ∧ w.cell? ⟨g, 4, none⟩ = some (.bool b.nx) ∧ w.cell? ⟨g, 5, none⟩ = some (b.vx) ∧ w.cell? ⟨g, 6, none⟩ = some (.bool b.ny) ∧ w.cell? ⟨g, 7, none⟩ = some (b.vy) ∧ w.cell? ⟨g, 8, none⟩ = some (.bool c.nx) ∧ w.cell? ⟨g, 9, none⟩ = some (c.vx) ∧ w.cell? ⟨g, 10, none⟩ = some (.bool c.ny) ∧ w.cell? ⟨g, 11, none⟩ = some (c.vy) ∧ w.cell? ⟨g, 12, none⟩ = some (.bool d.nx) ∧ w.cell? ⟨g, 13, none⟩ = some (d.vx) ∧ w.cell? ⟨g, 14, none⟩ = some (.bool d.ny) ∧ w.cell? ⟨g, 15, none⟩ = some (d.vy)

theorem Q4.kept {w w' : World} {g : Nat} {a b c d : PB} (h : Q4 w g a b c d) (hb : Below w.heap.size w w') : Q4 w' g a b c d := by
  have hc : ∀ j, w'.cell? ⟨g, j, none⟩ = w.cell? ⟨g, j, none⟩ := fun j => hb.cell (p := ⟨g, j, none⟩) h.lt
  refine ⟨Nat.lt_of_lt_of_le h.lt hb.size, ?_⟩
  simp only [hc]
  exact h.cs

theorem points4_ok (g c0 ax ay bx by' cx cy dx dy : Nat) (w : World) (h64 : ∀ p ∈ [(ax, ay), (bx, by'), (cx, cy), (dx, dy)], p.1 < 2 ^ 64 ∧ p.2 < 2 ^ 64) (h0 : w.cell? ⟨g, 0, none⟩ = some (.int .u64 ax)) (h1 : w.cell? ⟨g, 1, none⟩ = some (.int .u64 ay)) (h2 : w.cell? ⟨g, 2, none⟩ = some (.int .u64 bx)) (h3 : w.cell? ⟨g, 3, none⟩ = some (.int .u64 by')) (h4 : w.cell? ⟨g, 4, none⟩ = some (.int .u64 cx)) (h5 : w.cell? ⟨g, 5, none⟩ = some (.int .u64 cy)) (h6 : w.cell? ⟨g, 6, none⟩ = some (.int .u64 dx)) (h7 : w.cell? ⟨g, 7, none⟩ = some (.int .u64 dy)) (hg : g < w.heap.size) (hok : okPts [(ax, ay), (bx, by'), (cx, cy), (dx, dy)] = true) :
    Calls Tryz.prog 15 #[.slice (some ⟨g, 0, none⟩) 4 c0] w fun e w' => Below w.heap.size w w' ∧ ∃ (g' c' : Nat) (a b c d : PB), e = .returned (.tuple #[.slice (some ⟨g', 0, none⟩) 4 c', .bool true]) ∧ Q4 w' g' a b c d ∧ PBs w' a (ax, ay) ∧ PBs w' b (bx, by') ∧ PBs w' c (cx, cy) ∧ PBs w' d (dx, dy) := by
  refine (points_walk g 4 c0 [(ax, ay), (bx, by'), (cx, cy), (dx, dy)] w rfl (by decide) hg (pts4 h0 h1 h2 h3 h4 h5 h6 h7) h64).mono ?_
  rintro e w' ⟨hb, ⟨_, v, qs, rfl, hown, hp⟩ | ⟨h1, _⟩⟩
  · have hl := hp.length
    match qs, hl, hp, hown with
    | [a, b, c, d], _, hp, hown =>
      obtain ⟨g', c', rfl, hlt, hc⟩ := own16 hown
      refine ⟨hb, g', c', a, b, c, d, rfl, ⟨hlt, hc 0 (by decide), hc 1 (by decide), hc 2 (by decide), hc 3 (by decide), hc 4 (by decide), hc 5 (by decide), hc 6 (by decide), hc 7 (by decide), hc 8 (by decide), hc 9 (by decide), hc 10 (by decide), hc 11 (by decide), hc 12 (by decide), hc 13 (by decide), hc 14 (by decide), hc 15 (by decide)⟩, hp.1, hp.2.1, hp.2.2.1, hp.2.2.2.1⟩
  · rw [hok] at h1; cases h1

set_option maxHeartbeats 8000000 in
set_option maxRecDepth 100000 in
theorem asked_meet_no (ax ay bx by' cx cy dx dy : Nat) (w : World) (h64 : ∀ p ∈ [(ax, ay), (bx, by'), (cx, cy), (dx, dy)], p.1 < 2 ^ 64 ∧ p.2 < 2 ^ 64) (hok : okPts [(ax, ay), (bx, by'), (cx, cy), (dx, dy)] = false) :
    Calls Tryz.prog 12 #[.agg #[.int .i64 4, .int .u64 ax, .int .u64 ay, .int .u64 bx, .int .u64 by', .int .u64 cx, .int .u64 cy, .int .u64 dx, .int .u64 dy, .slice none 0 0]] w fun e w' => Below w.heap.size w w' ∧ e = .returned (.bool true) := by
  obtain ⟨i0, hi, hz0, hz1, hz2⟩ := info_parts infoPt
  go_enter Tryz.func12, Tryz.ntmps12
  go_upto_region 1 with fail
  generalize hW : World.alloc w _ = W
  have hWs : W.heap.size = w.heap.size + 1 := by subst hW; simp
  have hw : Below w.heap.size w W := by subst hW; exact (Below.refl _ _).alloc (Nat.le_refl _) _
  have KS : ∀ w', Below W.heap.size W w' → (w'.cell? ⟨w.heap.size, 0, none⟩ = some (.int .i64 4) ∧ w'.cell? ⟨w.heap.size, 1, none⟩ = some (.int .u64 ax) ∧ w'.cell? ⟨w.heap.size, 2, none⟩ = some (.int .u64 ay) ∧ w'.cell? ⟨w.heap.size, 3, none⟩ = some (.int .u64 bx) ∧ w'.cell? ⟨w.heap.size, 4, none⟩ = some (.int .u64 by') ∧ w'.cell? ⟨w.heap.size, 5, none⟩ = some (.int .u64 cx) ∧ w'.cell? ⟨w.heap.size, 6, none⟩ = some (.int .u64 cy) ∧ w'.cell? ⟨w.heap.size, 7, none⟩ = some (.int .u64 dx) ∧ w'.cell? ⟨w.heap.size, 8, none⟩ = some (.int .u64 dy)) := by
    intro w' hb
    obtain ⟨hc, _⟩ := bcell hb
    refine ⟨?_, ?_, ?_, ?_, ?_, ?_, ?_, ?_, ?_⟩
    all_goals (rw [hc _ _ (by omega)]; subst hW; simp [go_sem])
  have hlt : w.heap.size < W.heap.size := by omega
  clear hW hWs
  have hS0 := KS W (Below.refl _ _)
  go_wp2_with (first | (at_builtin; go_must (refine wpList_append_own _ rfl _ _ 26 rfl W.heap.size 24 i0 _ 2 16 Tryz.underlying26 hi hz0 hz1 hz2 rfl (by decide) _ 3 [.int .u64 ax, .int .u64 ay, .int .u64 bx, .int .u64 by', .int .u64 cx, .int .u64 cy] rfl (own_new6 rfl (Nat.le_refl _)) ⟨_, 0, none⟩ 1 1 [.int .u64 dx, .int .u64 dy] rfl rfl (cells_two (by simp [go_sem]) (by simp [go_sem])) (by intro u hu; simp at hu; rcases hu with rfl | rfl <;> rfl) (by unfold maxLen; omega) (by omega) (by simp <;> omega) ?_; intro v' wA hA1 hA2 _; obtain ⟨gA, cA, hvA, hgA, hcA⟩ := own8 hA1; subst hvA; have hWA : Below W.heap.size W wA := Below.grown (((Below.refl _ W).alloc (Nat.le_refl _) _).alloc (by simp) _) hA2 (by simp <;> omega) (fun k hk => by cases hk; exact Nat.le_refl _); have hSA := KS wA hWA; clear hA1 hA2)) | (go_at_call 15; go_must (refine (points4_no gA cA ax ay bx by' cx cy dx dy _ h64 (hcA 0 (by decide)) (hcA 1 (by decide)) (hcA 2 (by decide)) (hcA 3 (by decide)) (hcA 4 (by decide)) (hcA 5 (by decide)) (hcA 6 (by decide)) (hcA 7 (by decide)) hgA hok).mono ?_; rintro e w1 ⟨hb1, rfl⟩; have hW1 : Below W.heap.size W w1 := below_step hb1 hWA; have hS1 := KS w1 hW1)) | (go_at_call 19; go_must (refine (meet_no ax ay bx by' cx cy dx dy _ h64 hok).mono ?_; rintro e w2 ⟨hb2, rfl⟩; have hW2 : Below W.heap.size W w2 := below_step hb2 hW1)) | (go_at_call 20; go_must (refine (num_any _ _).mono ?_; rintro e w3 ⟨rfl, rfl⟩)))
  go_ret
  exact ⟨hw.trans (hW2.mono hw.size), rfl⟩

set_option maxHeartbeats 8000000 in
set_option maxRecDepth 100000 in
theorem asked_meet_ok (ax ay bx by' cx cy dx dy : Nat) (w : World) (h64 : ∀ p ∈ [(ax, ay), (bx, by'), (cx, cy), (dx, dy)], p.1 < 2 ^ 64 ∧ p.2 < 2 ^ 64) (hok : okPts [(ax, ay), (bx, by'), (cx, cy), (dx, dy)] = true) :
    Calls Tryz.prog 12 #[.agg #[.int .i64 4, .int .u64 ax, .int .u64 ay, .int .u64 bx, .int .u64 by', .int .u64 cx, .int .u64 cy, .int .u64 dx, .int .u64 dy, .slice none 0 0]] w fun e w' => Below w.heap.size w w' ∧ e = .returned (.bool true) := by
  have hm : (mayB ax = true ∧ mayB ay = true) ∧ (mayB bx = true ∧ mayB by' = true) ∧ (mayB cx = true ∧ mayB cy = true) ∧ (mayB dx = true ∧ mayB dy = true) := by simpa [okPts] using hok
  have sax := crd_lt hm.1.1
  have say := crd_lt hm.1.2
  have sbx := crd_lt hm.2.1.1
  have sby := crd_lt hm.2.1.2
  have scx := crd_lt hm.2.2.1.1
  have scy := crd_lt hm.2.2.1.2
  have sdx := crd_lt hm.2.2.2.1
  have sdy := crd_lt hm.2.2.2.2
  clear hm
  have HO : Hid (∀ V, Calls Tryz.prog 19 #[.agg #[.int .u64 ax, .int .u64 ay], .agg #[.int .u64 bx, .int .u64 by'], .agg #[.int .u64 cx, .int .u64 cy], .agg #[.int .u64 dx, .int .u64 dy]] V fun e w' => Below V.heap.size V w' ∧ e = .returned (.tuple #[.int .i64 (meetP (crd ax) (crd ay) (crd bx) (crd by') (crd cx) (crd cy) (crd dx) (crd dy)), .int .i64 0])) := fun V => meetp_ok ax ay bx by' cx cy dx dy V h64 hok
  obtain ⟨i0, hi, hz0, hz1, hz2⟩ := info_parts infoPt
  go_enter Tryz.func12, Tryz.ntmps12
  go_upto_region 1 with fail
  generalize hW : World.alloc w _ = W
  have hWs : W.heap.size = w.heap.size + 1 := by subst hW; simp
  have hw : Below w.heap.size w W := by subst hW; exact (Below.refl _ _).alloc (Nat.le_refl _) _
  have KS : ∀ w', Below W.heap.size W w' → (w'.cell? ⟨w.heap.size, 0, none⟩ = some (.int .i64 4) ∧ w'.cell? ⟨w.heap.size, 1, none⟩ = some (.int .u64 ax) ∧ w'.cell? ⟨w.heap.size, 2, none⟩ = some (.int .u64 ay) ∧ w'.cell? ⟨w.heap.size, 3, none⟩ = some (.int .u64 bx) ∧ w'.cell? ⟨w.heap.size, 4, none⟩ = some (.int .u64 by') ∧ w'.cell? ⟨w.heap.size, 5, none⟩ = some (.int .u64 cx) ∧ w'.cell? ⟨w.heap.size, 6, none⟩ = some (.int .u64 cy) ∧ w'.cell? ⟨w.heap.size, 7, none⟩ = some (.int .u64 dx) ∧ w'.cell? ⟨w.heap.size, 8, none⟩ = some (.int .u64 dy)) := by
    intro w' hb
    obtain ⟨hc, _⟩ := bcell hb
    refine ⟨?_, ?_, ?_, ?_, ?_, ?_, ?_, ?_, ?_⟩
    all_goals (rw [hc _ _ (by omega)]; subst hW; simp [go_sem])
  have hlt : w.heap.size < W.heap.size := by omega
  clear hW hWs
  have hS0 := KS W (Below.refl _ _)
  go_wp2_with (first | (at_builtin; go_must (refine wpList_append_own _ rfl _ _ 26 rfl W.heap.size 24 i0 _ 2 16 Tryz.underlying26 hi hz0 hz1 hz2 rfl (by decide) _ 3 [.int .u64 ax, .int .u64 ay, .int .u64 bx, .int .u64 by', .int .u64 cx, .int .u64 cy] rfl (own_new6 rfl (Nat.le_refl _)) ⟨_, 0, none⟩ 1 1 [.int .u64 dx, .int .u64 dy] rfl rfl (cells_two (by simp [go_sem]) (by simp [go_sem])) (by intro u hu; simp at hu; rcases hu with rfl | rfl <;> rfl) (by unfold maxLen; omega) (by omega) (by simp <;> omega) ?_; intro v' wA hA1 hA2 _; obtain ⟨gA, cA, hvA, hgA, hcA⟩ := own8 hA1; subst hvA; have hWA : Below W.heap.size W wA := Below.grown (((Below.refl _ W).alloc (Nat.le_refl _) _).alloc (by simp) _) hA2 (by simp <;> omega) (fun k hk => by cases hk; exact Nat.le_refl _); have hSA := KS wA hWA; clear hA1 hA2)) | (go_at_call 15; go_must (refine (points4_ok gA cA ax ay bx by' cx cy dx dy _ h64 (hcA 0 (by decide)) (hcA 1 (by decide)) (hcA 2 (by decide)) (hcA 3 (by decide)) (hcA 4 (by decide)) (hcA 5 (by decide)) (hcA 6 (by decide)) (hcA 7 (by decide)) hgA hok).mono ?_; rintro e w1 ⟨hb1, g, c0, qa, qb, qc, qd, rfl, hQ, Pa, Pb, Pc, Pd⟩; have hW1 : Below W.heap.size W w1 := below_step hb1 hWA; have hS1 := KS w1 hW1)) | (go_at_call 19; go_must (refine (HO.out _).mono ?_; rintro e w2 ⟨hb2, rfl⟩; have hW2 : Below W.heap.size W w2 := below_step hb2 hW1; have hS2 := KS w2 hW2; replace hQ := hQ.kept hb2; replace Pa := Pa.kept hb2; replace Pb := Pb.kept hb2; replace Pc := Pc.kept hb2; replace Pd := Pd.kept hb2)))
  obtain ⟨nax, vax, lax, nay, vay, lay⟩ := qa
  obtain ⟨nbx, vbx, lbx, nby, vby, lby⟩ := qb
  obtain ⟨ncx, vcx, lcx, ncy, vcy, lcy⟩ := qc
  obtain ⟨ndx, vdx, ldx, ndy, vdy, ldy⟩ := qd
  obtain ⟨oax, kax, hfax⟩ := bg_form Pa.1; simp only at hfax; subst hfax
  obtain ⟨oay, kay, hfay⟩ := bg_form Pa.2; simp only at hfay; subst hfay
  obtain ⟨obx, kbx, hfbx⟩ := bg_form Pb.1; simp only at hfbx; subst hfbx
  obtain ⟨oby, kby, hfby⟩ := bg_form Pb.2; simp only at hfby; subst hfby
  obtain ⟨ocx, kcx, hfcx⟩ := bg_form Pc.1; simp only at hfcx; subst hfcx
  obtain ⟨ocy, kcy, hfcy⟩ := bg_form Pc.2; simp only at hfcy; subst hfcy
  obtain ⟨odx, kdx, hfdx⟩ := bg_form Pd.1; simp only at hfdx; subst hfdx
  obtain ⟨ody, kdy, hfdy⟩ := bg_form Pd.2; simp only at hfdy; subst hfdy
  have KQ : ∀ w', Below w2.heap.size w2 w' → (w'.cell? ⟨g, 0, none⟩ = some (.bool nax) ∧ w'.cell? ⟨g, 1, none⟩ = some (.slice oax lax.length kax) ∧ w'.cell? ⟨g, 2, none⟩ = some (.bool nay) ∧ w'.cell? ⟨g, 3, none⟩ = some (.slice oay lay.length kay) ∧ w'.cell? ⟨g, 4, none⟩ = some (.bool nbx) ∧ w'.cell? ⟨g, 5, none⟩ = some (.slice obx lbx.length kbx) ∧ w'.cell? ⟨g, 6, none⟩ = some (.bool nby) ∧ w'.cell? ⟨g, 7, none⟩ = some (.slice oby lby.length kby) ∧ w'.cell? ⟨g, 8, none⟩ = some (.bool ncx) ∧ w'.cell? ⟨g, 9, none⟩ = some (.slice ocx lcx.length kcx) ∧ w'.cell? ⟨g, 10, none⟩ = some (.bool ncy) ∧ w'.cell? ⟨g, 11, none⟩ = some (.slice ocy lcy.length kcy) ∧ w'.cell? ⟨g, 12, none⟩ = some (.bool ndx) ∧ w'.cell? ⟨g, 13, none⟩ = some (.slice odx ldx.length kdx) ∧ w'.cell? ⟨g, 14, none⟩ = some (.bool ndy) ∧ w'.cell? ⟨g, 15, none⟩ = some (.slice ody ldy.length kdy)) := fun w' hb => (hQ.kept hb).cs
  have hQ0 := KQ w2 (Below.refl _ _)
  clear hQ
  go_region_held3 (fun w' : World => (w'.cell? ⟨g, 0, none⟩ = some (.bool nax) ∧ w'.cell? ⟨g, 1, none⟩ = some (.slice oax lax.length kax) ∧ w'.cell? ⟨g, 2, none⟩ = some (.bool nay) ∧ w'.cell? ⟨g, 3, none⟩ = some (.slice oay lay.length kay) ∧ w'.cell? ⟨g, 4, none⟩ = some (.bool nbx) ∧ w'.cell? ⟨g, 5, none⟩ = some (.slice obx lbx.length kbx) ∧ w'.cell? ⟨g, 6, none⟩ = some (.bool nby) ∧ w'.cell? ⟨g, 7, none⟩ = some (.slice oby lby.length kby) ∧ w'.cell? ⟨g, 8, none⟩ = some (.bool ncx) ∧ w'.cell? ⟨g, 9, none⟩ = some (.slice ocx lcx.length kcx) ∧ w'.cell? ⟨g, 10, none⟩ = some (.bool ncy) ∧ w'.cell? ⟨g, 11, none⟩ = some (.slice ocy lcy.length kcy) ∧ w'.cell? ⟨g, 12, none⟩ = some (.bool ndx) ∧ w'.cell? ⟨g, 13, none⟩ = some (.slice odx ldx.length kdx) ∧ w'.cell? ⟨g, 14, none⟩ = some (.bool ndy) ∧ w'.cell? ⟨g, 15, none⟩ = some (.slice ody ldy.length kdy))) (exact KQ _ (by repeat (first | exact hV3 | exact Below.refl _ _ | refine Below.drew ?_))) (first | (go_at_call 26; go_must (refine (rmeet_any nax oax kax lax (crd ax) nay oay kay lay (crd ay) nbx obx kbx lbx (crd bx) nby oby kby lby (crd by') ncx ocx kcx lcx (crd cx) ncy ocy kcy lcy (crd cy) ndx odx kdx ldx (crd dx) ndy ody kdy ldy (crd dy) _ (Pa.1.kept (by repeat (first | exact Below.refl _ _ | refine Below.drew ?_))) sax (Pa.2.kept (by repeat (first | exact Below.refl _ _ | refine Below.drew ?_))) say (Pb.1.kept (by repeat (first | exact Below.refl _ _ | refine Below.drew ?_))) sbx (Pb.2.kept (by repeat (first | exact Below.refl _ _ | refine Below.drew ?_))) sby (Pc.1.kept (by repeat (first | exact Below.refl _ _ | refine Below.drew ?_))) scx (Pc.2.kept (by repeat (first | exact Below.refl _ _ | refine Below.drew ?_))) scy (Pd.1.kept (by repeat (first | exact Below.refl _ _ | refine Below.drew ?_))) sdx (Pd.2.kept (by repeat (first | exact Below.refl _ _ | refine Below.drew ?_))) sdy).mono ?_; rintro e w3 ⟨hb3, rfl⟩; have hV3 : Below w2.heap.size w2 w3 := below_step hb3 (by repeat (first | exact Below.refl _ _ | refine Below.drew ?_)))))
  all_goals
    go_wp2
    go_ret
    exact ⟨hw.trans ((below_step hV3 hW2).mono hw.size), rfl⟩

end Go.Proofs.YtbjjkfmdkmbcfaaGreat

namespace Go.Proofs.YtbjjkfmdkmbcfaaGreat
open Go.RowKit
open PlLv

attribute [local go_sem ↓] Go.wp_at_zero Go.wp_at_succ

/-- copy of elements of two cells each. -/
theorem run_copy2 {P : Program} (w : World) (dT sT ty elem : TypeId) (g o dLen dCap : Nat) (a : Addr) (sLen sCap : Nat) (cur : Array Value) (t : TypeId) (cs : List Value)
    (hu : P.underlying dT = some (.slice elem)) (hs : (P.info? elem).map (·.size) = some 2)
    (hg : w.heap[g]? = some (.cells cur t (0, 0))) (hn : cs.length = Nat.min sLen dLen * 2)
    (hsrc : ∀ j v, cs[j]? = some v → w.cell? (a.add j) = some v) (hfit : o + cs.length ≤ cur.size) (h1 : ∀ v ∈ cs, v.oneCell' = true) :
    (Builtin.copy_ #[dT, sT] ty #[.slice (some ⟨g, o, none⟩) dLen dCap, .slice (some a) sLen sCap]).run P w =
      .ok (goInt (Nat.min sLen dLen)) (w.setRow g (cur.toList.take o ++ cs ++ cur.toList.drop (o + cs.length)).toArray) := by
  have hl := run_loadCells_list (P := P) w a cs hsrc
  have hst := run_storeCells_at P g o t cs 0 cur w hg (by simpa using hfit) h1
  cases hq : P.info? elem with
  | none => simp [hq] at hs
  | some i =>
    have hi : i.size = 2 := by simpa [hq] using hs
    simp [Builtin.copy_, run_underlying hu, Builtin.lenOf, Builtin.firstCells, sizeOf, typeInfo, hq, hi, ← hn, hl, hst]

theorem wpList_copy2 {P : Program} {w : World} {ops : Array Oper} {rest : List Oper} {o : Oper} {a : Act} {Q : Exit → Act → World → Prop} (hgd : o.guard = none) (d s : Operand) (dT sT : TypeId)
    (ho : o.op = .call { callee := .builtin .copy, args := #[d, s], argTypes := #[dT, sT] }) (elem : TypeId) (hu : P.underlying dT = some (.slice elem)) (hsz : (P.info? elem).map (·.size) = some 2)
    (g dLen dCap : Nat) (sp : Option Addr) (sLen sCap : Nat) (hd : a.eval d = .slice (some ⟨g, 0, none⟩) dLen dCap) (hs : a.eval s = .slice sp sLen sCap)
    (cur : Array Value) (t : TypeId) (hg : w.heap[g]? = some (.cells cur t (0, 0))) (cs : List Value) (hn : cs.length = sLen * 2) (hle : sLen ≤ dLen)
    (hsrc : (sp = none ∧ sLen = 0 ∧ sCap = 0) ∨ ∃ ad, sp = some ad ∧ ∀ j v, cs[j]? = some v → w.cell? (ad.add j) = some v) (hfit : cs.length ≤ cur.size) (h1 : ∀ v ∈ cs, v.oneCell' = true) (B : Nat) (w0 : World) (hb : Below B w0 w) (hBg : B ≤ g)
    (h : ∀ w', Hid (w'.heap[g]? = some (.cells (cs ++ cur.toList.drop cs.length).toArray t (0, 0))) → Below B w0 w' → w'.heap.size = w.heap.size → wpList P ops Q rest (a.put o.dst (goInt sLen)) w') : wpList P ops Q (o :: rest) a w := by
  refine wpList_plain hgd fun K hK => ?_
  have hmin : Nat.min sLen dLen = sLen := Nat.min_eq_left hle
  rcases hsrc with ⟨rfl, rfl, rfl⟩ | ⟨ad, rfl, hsrc⟩
  · have hcs : cs = [] := List.eq_nil_of_length_eq_zero (by omega)
    subst hcs
    have hrun := run_copy_nil (P := P) w dT sT o.type elem ⟨g, 0, none⟩ dLen dCap hu (by cases hq : P.info? elem <;> simp [hq] at hsz ⊢)
    unfold Oper.wp
    simp [execOp, ho, resolve, invoke, builtin, hd, hs, hrun, Result.andThen]
    exact hK _ _ (h w (by show _ = _; simpa using hg) hb rfl)
  · have hrun := run_copy2 (P := P) w dT sT o.type elem g 0 dLen dCap ad sLen sCap cur t cs hu hsz hg (by rw [hmin]; exact hn) hsrc (by omega) h1
    rw [hmin] at hrun
    unfold Oper.wp
    simp [execOp, ho, resolve, invoke, builtin, hd, hs, hrun, Result.andThen]
    refine hK _ _ (h _ ?_ (below_setRow hb hBg _) (by simp [World.setRow]))
    show _ = _
    simpa using setRow_heap w g _ _ t _ hg

/-- Points as cells. -/
def ptCells (ps : List (Nat × Nat)) : List Value := ps.flatMap fun p => [.int .u64 p.1, .int .u64 p.2]

theorem ptCells_length (ps : List (Nat × Nat)) : (ptCells ps).length = ps.length * 2 := by
  induction ps with
  | nil => rfl
  | cons p ps ih => simp [ptCells] at ih ⊢; omega

theorem ptCells_at (ps : List (Nat × Nat)) : ∀ t, t < ps.length → (ptCells ps)[t * 2]? = some (.int .u64 (ps.getD t (0, 0)).1) ∧ (ptCells ps)[t * 2 + 1]? = some (.int .u64 (ps.getD t (0, 0)).2) := by
  induction ps with
  | nil => intro t ht; simp at ht
  | cons p ps ih =>
    intro t ht
    have e : ptCells (p :: ps) = .int .u64 p.1 :: .int .u64 p.2 :: ptCells ps := by simp [ptCells]
    rw [e]
    cases t with
    | zero => simp
    | succ t =>
      have h := ih t (by simpa using ht)
      rw [show (t + 1) * 2 = t * 2 + 1 + 1 by omega]
      simpa using h

theorem ptCells_append (ps qs : List (Nat × Nat)) : ptCells (ps ++ qs) = ptCells ps ++ ptCells qs := by simp [ptCells]

theorem ptCells_one (ps : List (Nat × Nat)) : ∀ v ∈ ptCells ps, v.oneCell' = true := by
  intro v hv
  simp [ptCells] at hv
  obtain ⟨a, b, _, rfl | rfl⟩ := hv <;> rfl

/-- The slice that came in: nil, or its cells. -/
def SrcAt (w : World) (v : Value) (n : Nat) (ps : List (Nat × Nat)) : Prop := (v = .slice none 0 0 ∧ n = 0) ∨ (∃ a, v = .slice (some a) 0 0 ∧ n = 0) ∨ ∃ g off c, v = .slice (some ⟨g, off, none⟩) n c ∧ g < w.heap.size ∧ PtsAt w g off ps

theorem SrcAt.form {w : World} {v : Value} {n : Nat} {ps : List (Nat × Nat)} (h : SrcAt w v n ps) : ∃ sp sc, v = .slice sp n sc := by
  rcases h with ⟨rfl, rfl⟩ | ⟨a, rfl, rfl⟩ | ⟨g, off, c, rfl, _⟩
  · exact ⟨_, _, rfl⟩
  · exact ⟨_, _, rfl⟩
  · exact ⟨_, _, rfl⟩

theorem src_cells {w : World} {g off : Nat} {ps : List (Nat × Nat)} (h : PtsAt w g off ps) : ∀ j v, (ptCells ps)[j]? = some v → w.cell? ((⟨g, off, none⟩ : Addr).add j) = some v := by
  intro j v hv
  have hadd : (⟨g, off, none⟩ : Addr).add j = ⟨g, off + j, none⟩ := by unfold Addr.add; split <;> simp_all
  rw [hadd]
  have hj : j < ps.length * 2 := by rw [← ptCells_length]; exact (List.getElem?_eq_some_iff.1 hv).1
  have ht : j / 2 < ps.length := by omega
  have h1 := h _ ht
  have h2 := ptCells_at ps _ ht
  rcases Nat.mod_two_eq_zero_or_one j with hm | hm
  · have e : j / 2 * 2 = j := by omega
    rw [e] at h1 h2
    rw [h1.1, ← hv, h2.1]
  · have e : j / 2 * 2 + 1 = j := by omega
    have e2 : off + j / 2 * 2 + 1 = off + j := by omega
    rw [e] at h2
    rw [e2] at h1
    rw [h1.2, ← hv, h2.2]

end Go.Proofs.YtbjjkfmdkmbcfaaGreat

namespace Go.Proofs.YtbjjkfmdkmbcfaaGreat
open Go.RowKit
open PlLv

attribute [local go_sem ↓] Go.wp_at_zero Go.wp_at_succ

theorem set_take2 (l : List Value) (i : Nat) (x y : Value) (h : i + 2 ≤ l.length) : ((l.set i x).set (i + 1) y).take (i + 2) = l.take i ++ [x, y] := by
  apply List.ext_getElem?
  intro j
  rw [List.getElem?_take, List.getElem?_append, List.length_take, Nat.min_eq_left (by omega)]
  by_cases h1 : j < i
  · rw [if_pos (by omega), if_pos h1, List.getElem?_set_ne (by omega), List.getElem?_set_ne (by omega), List.getElem?_take, if_pos h1]
  · rw [if_neg h1]
    by_cases h2 : j = i
    · subst h2
      rw [if_pos (by omega), List.getElem?_set_ne (by omega), List.getElem?_set_self (by omega)]
      simp
    · by_cases h3 : j = i + 1
      · subst h3
        rw [if_pos (by omega), List.getElem?_set_self (by simp; omega)]
        simp
      · rw [if_neg (by omega)]
        symm
        rw [List.getElem?_eq_none]
        simp
        omega

theorem own_row {w : World} {base n : Nat} {e : TypeId} {size g : Nat} {xs : List Value} (h : w.ownsRow base e size (.slice (some ⟨g, 0, none⟩) n n) n xs) : ∃ cur : Array Value, w.heap[g]? = some (.cells cur e (0, 0)) ∧ cur.size = n * size := by
  rcases h.2 with ⟨h1, _⟩ | ⟨g', cap', cur, h1, hbg, hgg, hnc, hcm, hcs, htake⟩
  · simp at h1
  · simp only [Value.slice.injEq, Option.some.injEq, Addr.mk.injEq, and_true, true_and] at h1
    obtain ⟨rfl, rfl⟩ := h1
    exact ⟨cur, hgg, hcs⟩

theorem copy_gen {P : Program} (w : World) (dT sT ty elem : TypeId) (g dLen dCap : Nat) (sp : Option Addr) (sLen sCap : Nat) (cur : Array Value) (t : TypeId) (cs : List Value) (hu : P.underlying dT = some (.slice elem)) (hsz : (P.info? elem).map (·.size) = some 2)
    (hg : w.heap[g]? = some (.cells cur t (0, 0))) (hn : cs.length = sLen * 2) (hle : sLen ≤ dLen) (hsrc : (sp = none ∧ sLen = 0 ∧ sCap = 0) ∨ ∃ ad, sp = some ad ∧ ∀ j v, cs[j]? = some v → w.cell? (ad.add j) = some v) (hfit : cs.length ≤ cur.size) (h1 : ∀ v ∈ cs, v.oneCell' = true) (B : Nat) (w0 : World) (hb : Below B w0 w) (hBg : B ≤ g) :
    ∃ w', (Builtin.copy_ #[dT, sT] ty #[.slice (some ⟨g, 0, none⟩) dLen dCap, .slice sp sLen sCap]).run P w = .ok (goInt sLen) w' ∧ Hid (w'.heap[g]? = some (.cells (cs ++ cur.toList.drop cs.length).toArray t (0, 0))) ∧ Below B w0 w' := by
  have hmin : Nat.min sLen dLen = sLen := Nat.min_eq_left hle
  rcases hsrc with ⟨rfl, rfl, rfl⟩ | ⟨ad, rfl, hsrc⟩
  · have hcs : cs = [] := List.eq_nil_of_length_eq_zero (by omega)
    subst hcs
    exact ⟨w, run_copy_nil (P := P) w dT sT ty elem ⟨g, 0, none⟩ dLen dCap hu (by cases hq : P.info? elem <;> simp [hq] at hsz ⊢), by show _ = _; simpa using hg, hb⟩
  · have hrun := run_copy2 (P := P) w dT sT ty elem g 0 dLen dCap ad sLen sCap cur t cs hu hsz hg (by rw [hmin]; exact hn) hsrc (by omega) h1
    rw [hmin] at hrun
    refine ⟨_, hrun, ?_, below_setRow hb hBg _⟩
    show _ = _
    simpa using setRow_heap w g _ _ t _ hg

/-- What stands behind the points that are lent. -/
def tail3 : List (Nat × Nat) := [(77, 0), (77, 0), (77, 0)]

theorem tail3_take {j : Nat} (h : j < 3) : tail3.take (j + 1) = tail3.take j ++ [(77, 0)] := by
  match j, h with
  | 0, _ => rfl
  | 1, _ => rfl
  | 2, _ => rfl

/-- The row while the points behind are laid. -/
def LRow (w : World) (G n : Nat) (ps : List (Nat × Nat)) (k : Nat) : Prop := ∃ cur : Array Value, w.heap[G]? = some (.cells cur 24 (0, 0)) ∧ cur.size = (n + 3) * 2 ∧ cur.toList.take (k * 2) = ptCells (ps ++ tail3.take (k - n))

theorem row_cell {w : World} {G : Nat} {cur : Array Value} {t : TypeId} (h : w.heap[G]? = some (.cells cur t (0, 0))) (i : Nat) (hi : i < cur.size) : ∃ u, w.cell? ⟨G, i, none⟩ = some u ∧ w.frozen? ⟨G, i, none⟩ = false := by
  refine ⟨cur[i], ?_, ?_⟩
  · simp [World.cell?, h, hi]
  · simp [World.frozen?, h]

theorem LRow.put {w : World} {G n k : Nat} {ps : List (Nat × Nat)} (h : LRow w G n ps k) (h1 : n ≤ k) (h2 : k < n + 3) : LRow ((w.setCell ⟨G, k * 2, none⟩ (.int .u64 77)).setCell ⟨G, k * 2 + 1, none⟩ (.int .u64 0)) G n ps (k + 1) := by
  obtain ⟨cur, hg, hs, ht⟩ := h
  refine ⟨_, heap_setCell_same _ G (k * 2 + 1) _ _ _ (heap_setCell_same _ G (k * 2) _ _ _ hg), by simpa using hs, ?_⟩
  have e := set_take2 cur.toList (k * 2) (.int .u64 77) (.int .u64 0) (by simp; omega)
  rw [show (k + 1) * 2 = k * 2 + 2 by omega, show k + 1 - n = (k - n) + 1 by omega, tail3_take (by omega), ← List.append_assoc, ptCells_append, ← ht]
  simpa [ptCells] using e

set_option maxHeartbeats 4000000 in
set_option maxRecDepth 100000 in
theorem lent_any (v : Value) (n : Nat) (ps : List (Nat × Nat)) (w : World) (hv : SrcAt w v n ps) (hn : ps.length = n) (hnb : n ≤ 8796093021952) :
    Calls Tryz.prog 27 #[v] w fun e w' => e = .returned (.slice (some ⟨w.heap.size, 0, none⟩) (n + 3 : Nat) (n + 3 : Nat)) ∧ w'.heap[w.heap.size]? = some (.cells (ptCells (ps ++ tail3)).toArray 24 (0, 0)) ∧ Below w.heap.size w w' := by
  obtain ⟨i0, hi, hz0, hz1, hz2⟩ := info_parts infoPt
  have hsz : (Tryz.prog.info? 24).map (·.size) = some 2 := by rw [hi]; simp [hz1]
  have hpl := ptCells_length ps
  obtain ⟨sp, sc, hvf⟩ := hv.form
  have HV : Hid (∀ w', Below w.heap.size w w' → (sp = none ∧ n = 0 ∧ sc = 0) ∨ ∃ ad, sp = some ad ∧ ∀ j u, (ptCells ps)[j]? = some u → w'.cell? (ad.add j) = some u) := fun w' hb => by
    rcases hv with ⟨h1, h2⟩ | ⟨a, h1, h2⟩ | ⟨g, off, c, h1, hg, hp⟩
    · rw [h1] at hvf
      simp at hvf
      exact .inl ⟨hvf.1.symm, h2, hvf.2.2.symm⟩
    · rw [h1] at hvf
      simp at hvf
      refine .inr ⟨a, hvf.1.symm, fun j u hu => ?_⟩
      have hps : ps = [] := List.eq_nil_of_length_eq_zero (by omega)
      subst hps
      simp [ptCells] at hu
    · rw [h1] at hvf
      simp at hvf
      refine .inr ⟨⟨g, off, none⟩, hvf.1.symm, fun j u hu => ?_⟩
      have h3 := src_cells hp j u hu
      have hadd : (⟨g, off, none⟩ : Addr).add j = ⟨g, off + j, none⟩ := by unfold Addr.add; split <;> simp_all
      rw [hadd] at h3 ⊢
      rw [hb.cell (p := ⟨g, off + j, none⟩) hg]
      exact h3
  subst hvf
  clear hv
  go_enter Tryz.func27, Tryz.ntmps27
  go_wp2_with (first | (at_make; go_must (refine wpList_make_full _ rfl _ _ 26 rfl w.heap.size 24 i0 _ 2 Tryz.underlying26 hi hz0 hz1 _ _ _ _ (n + 3) rfl rfl (by omega) (by omega) (by rw [hz2]; omega) (by unfold maxLen; omega) (Nat.le_refl _) ?_; intro w0 hown0 hgrow0; obtain ⟨cur0, hg0, hc0⟩ := own_row hown0; have hb0 : Below w.heap.size w w0 := (Below.refl _ _).grown hgrow0 (Nat.le_refl _) (fun k h => by cases h); clear hown0 hgrow0; obtain ⟨w1, hrun, HG1, hb1⟩ := copy_gen (P := Tryz.prog) w0 26 26 3 24 w.heap.size (n + 3) (n + 3) sp n sc cur0 24 (ptCells ps) Tryz.underlying26 hsz hg0 (by omega) (by omega) (HV.out _ hb0) (by omega) (ptCells_one ps) w.heap.size w hb0 (Nat.le_refl _))))
  have R0 : LRow w1 w.heap.size n ps n := by
    refine ⟨_, HG1.out, ?_, ?_⟩
    · simp; omega
    · simp [tail3]
      rw [List.take_append_of_le_length (by omega), List.take_of_length_le (by omega)]
  clear HG1
  go_loopw [4] (fun si wr => ∃ k : Nat, si = .int .i64 k ∧ n ≤ k ∧ k ≤ n + 3 ∧ LRow wr w.heap.size n ps k ∧ Below w.heap.size w wr) (fun si _ => n + 3 - (intOf si).toNat)
  case atStart => exact ⟨n, rfl, Nat.le_refl _, by omega, R0, hb1⟩
  case round =>
    obtain ⟨k, rfl, hk1, hk2, R, hbel⟩ := hrel
    by_cases hlt : k < n + 3
    · obtain ⟨u0, cu0, fu0⟩ : ∃ u, wr.cell? ⟨w.heap.size, k * 2, none⟩ = some u ∧ wr.frozen? ⟨w.heap.size, k * 2, none⟩ = false := by
        obtain ⟨cur, hg, hs, _⟩ := R
        exact row_cell hg _ (by omega)
      obtain ⟨u1, cu1, fu1⟩ : ∃ u, wr.cell? ⟨w.heap.size, k * 2 + 1, none⟩ = some u ∧ wr.frozen? ⟨w.heap.size, k * 2 + 1, none⟩ = false := by
        obtain ⟨cur, hg, hs, _⟩ := R
        exact row_cell hg _ (by omega)
      have R2 := R.put hk1 hlt
      have hb2 : Below w.heap.size w ((wr.setCell ⟨w.heap.size, k * 2, none⟩ (.int .u64 77)).setCell ⟨w.heap.size, k * 2 + 1, none⟩ (.int .u64 0)) := (hbel.setCell (Nat.le_refl _) _).setCell (Nat.le_refl _) _
      clear R hbel R0
      go_wp2
      go_roundw
      case rel => exact ⟨k + 1, by go_num, by omega, by omega, R2, hb2⟩
      case measure => simp [intOf]; omega
    · have hkn : k = n + 3 := by omega
      subst hkn
      have hrow : wr.heap[w.heap.size]? = some (.cells (ptCells (ps ++ tail3)).toArray 24 (0, 0)) := by
        obtain ⟨cur, hg, hs, ht⟩ := R
        rw [show n + 3 - n = 3 by omega, List.take_of_length_le (by simp; omega)] at ht
        rw [hg]
        congr 2
        rw [show tail3.take 3 = tail3 from rfl] at ht
        rw [← ht]
      clear R R0
      go_wp2
      go_ret
      exact ⟨rfl, hrow, hbel⟩

end Go.Proofs.YtbjjkfmdkmbcfaaGreat
