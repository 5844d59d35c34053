import Derived.Test.YtbjjkfmdkmbcfaaGreatLl
namespace Go.Proofs.YtbjjkfmdkmbcfaaGreat
open Go.RowKit
open PlLv

attribute [local go_sem ↓] Go.wp_at_zero Go.wp_at_succ

theorem eql_nil (w : World) (a : Option Addr) (l c : Nat) : (binOp .eql 26 (.slice a l c) (.slice none 0 0)).run Tryz.prog w = .ok (.bool a.isNone) w := by
  have h := run_equal_slice_nil (P := Tryz.prog) (w := w) 26 24 a l c Tryz.underlying26
  simp [binOp, h]

attribute [local go_sem] eql_nil

theorem SrcAt.kept {w w' : World} {v : Value} {n : Nat} {ps : List (Nat × Nat)} (h : SrcAt w v n ps) (hb : Below w.heap.size w w') : SrcAt w' v n ps := by
  rcases h with h | h | ⟨g, off, c, rfl, hg, hp⟩
  · exact .inl h
  · exact .inr (.inl h)
  · refine .inr (.inr ⟨g, off, c, rfl, Nat.lt_of_lt_of_le hg hb.size, fun t ht => ?_⟩)
    obtain ⟨hc, _⟩ := bcell hb
    rw [hc _ _ hg, hc _ _ hg]
    exact hp t ht

theorem src_one {w : World} {x y : Nat} {b : Nat} {t : TypeId} (hb : b = w.heap.size) : SrcAt (w.alloc (.cells #[.int .u64 x, .int .u64 y] t)) (.slice (some ⟨b, 0, none⟩) 1 1) 1 [(x, y)] := by
  subst hb
  refine .inr (.inr ⟨_, 0, _, rfl, by simp, fun t ht => ?_⟩)
  match t, ht with
  | 0, _ => exact ⟨by simp [go_sem], by simp [go_sem]⟩

theorem sl_of_row {w : World} {H n c : Nat} {ps : List (Nat × Nat)} (h : w.heap[H]? = some (.cells (ptCells (ps ++ tail3)).toArray 24 (0, 0))) (hn : ps.length = n) : SlAt w (.slice (some ⟨H, 0, none⟩) n c) n ps := by
  refine .inr ⟨H, c, rfl, lt_of_row h, fun t ht => ?_⟩
  have hr := (row_of_full h t).cells (by simp [tail3]; omega)
  have e : (ps ++ tail3).getD t (0, 0) = ps.getD t (0, 0) := by
    rw [List.getD_eq_getElem?_getD, List.getD_eq_getElem?_getD, List.getElem?_append_left ht]
  rw [e] at hr
  rw [Nat.zero_add]
  exact hr.1

theorem poly_one {w : World} {v : Value} {x y : Nat} (h : PolyAt w v 1 [(x, y)]) : ∃ g c nx ox kx lx ny oy ky ly, v = .slice (some ⟨g, 0, none⟩) 1 c ∧ (w.cell? ⟨g, 0, none⟩ = some (.bool nx) ∧ w.cell? ⟨g, 1, none⟩ = some (.slice ox lx.length kx) ∧ w.cell? ⟨g, 2, none⟩ = some (.bool ny) ∧ w.cell? ⟨g, 3, none⟩ = some (.slice oy ly.length ky)) ∧ Bg w nx (.slice ox (lx : List Nat).length kx) lx (crd x) ∧ Bg w ny (.slice oy (ly : List Nat).length ky) ly (crd y) ∧ (crd x).natAbs < 2 ^ 200 ∧ (crd y).natAbs < 2 ^ 200 := by
  rcases h with ⟨_, h⟩ | ⟨g, c, rfl, hg, f, hf⟩
  · cases h
  · obtain ⟨hc, hx, hy, hs⟩ := hf 0 (by decide)
    generalize f 0 = q at *
    obtain ⟨nx, vx, lx, ny, vy, ly⟩ := q
    obtain ⟨ox, kx, hfx⟩ := bg_form hx
    obtain ⟨oy, ky, hfy⟩ := bg_form hy
    (try simp only at hfx hfy)
    subst hfx hfy
    exact ⟨g, c, nx, ox, kx, lx, ny, oy, ky, ly, rfl, hc, hx, hy, hs.1, hs.2⟩

set_option maxHeartbeats 8000000 in
set_option maxRecDepth 100000 in
theorem inlaw_many (ad : Addr) (sc : Nat) (n ax ay bx by' cx cy dx dy : Nat) (ps : List (Nat × Nat)) (w : World) (hv : SrcAt w (.slice (some ad) n sc) n ps) (hn : ps.length = n) (hm : 100 < n) (hnb : n ≤ 8796093021952) :
    Calls Tryz.prog 13 #[.agg #[.int .i64 5, .int .u64 ax, .int .u64 ay, .int .u64 bx, .int .u64 by', .int .u64 cx, .int .u64 cy, .int .u64 dx, .int .u64 dy, .slice (some ad) n sc]] w fun e w' => Below w.heap.size w w' ∧ e = .returned (.bool true) := by
  go_enter Tryz.func13, Tryz.ntmps13
  go_upto_region 1 with fail
  generalize hW : World.alloc w _ = W
  have hWs : W.heap.size = w.heap.size + 1 := by subst hW; simp
  have hw : Below w.heap.size w W := by subst hW; exact (Below.refl _ _).alloc (Nat.le_refl _) _
  have KS : ∀ w', Below W.heap.size W w' → (w'.cell? ⟨w.heap.size, 1, none⟩ = some (.int .u64 ax) ∧ w'.cell? ⟨w.heap.size, 2, none⟩ = some (.int .u64 ay) ∧ w'.cell? ⟨w.heap.size, 9, none⟩ = some (.slice (some ad) n sc)) := by
    intro w' hb
    obtain ⟨hc, _⟩ := bcell hb
    refine ⟨?_, ?_, ?_⟩
    all_goals (rw [hc _ _ (by omega)]; subst hW; simp [go_sem])
  have HSRC : Hid (∀ w', Below W.heap.size W w' → SrcAt w' (.slice (some ad) n sc) n ps) := fun w' hb => SrcAt.kept (w := w) (hv) (hw.trans (hb.mono hw.size))
  clear hW hWs hv
  have hS0 := KS W (Below.refl _ _)
  go_wp2_with (first | (go_at_call 27; go_must (refine (lent_any _ n ps _ (HSRC.out _ (Below.refl _ _)) hn (by omega)).mono ?_; rintro e w1 ⟨rfl, hrow1, hb1⟩; have hS1 := KS w1 hb1; have hH1 := lt_of_row hrow1; have HR1 : Hid (w1.heap[W.heap.size]? = some (.cells (ptCells (ps ++ tail3)).toArray 24 (0, 0))) := hrow1; clear hrow1)) | (go_at_call 28; go_must (refine (insideE_many _ n _ ax ay _ (by omega) (by omega)).mono ?_; rintro e w2 ⟨hb2, rfl⟩; have hW2 : Below W.heap.size W w2 := below_step hb2 hb1; have hS2 := KS w2 hW2; have HR2 : Hid (w2.heap[W.heap.size]? = some (.cells (ptCells (ps ++ tail3)).toArray 24 (0, 0))) := (hb2.block _ hH1).trans HR1.out)) | (go_at_call 29; go_must (refine (whole_any W.heap.size n _ ps _ HR2.out (HSRC.out _ hW2) hn (by omega)).mono ?_; rintro e w3 ⟨rfl, hb3⟩; have hW3 : Below W.heap.size W w3 := hW2.trans hb3; have hS3 := KS w3 hW3)) | (go_at_call 20; go_must (refine (num_any _ _).mono ?_; rintro e w9 ⟨rfl, rfl⟩)))
  go_ret
  exact ⟨hw.trans (Below.mono (B := W.heap.size) hW3 hw.size), rfl⟩

set_option maxHeartbeats 8000000 in
set_option maxRecDepth 100000 in
theorem inlaw_no1y (ad : Addr) (sc : Nat) (n ax ay bx by' cx cy dx dy : Nat) (ps : List (Nat × Nat)) (w : World) (hv : SrcAt w (.slice (some ad) n sc) n ps) (hn : ps.length = n) (hnm : n ≤ 100) (h64 : ∀ p ∈ ps, p.1 < 2 ^ 64 ∧ p.2 < 2 ^ 64) (hp64 : ∀ p ∈ [(ax, ay)], p.1 < 2 ^ 64 ∧ p.2 < 2 ^ 64) (hok : okPts ps = false) (hpk : okPts [(ax, ay)] = true) :
    Calls Tryz.prog 13 #[.agg #[.int .i64 5, .int .u64 ax, .int .u64 ay, .int .u64 bx, .int .u64 by', .int .u64 cx, .int .u64 cy, .int .u64 dx, .int .u64 dy, .slice (some ad) n sc]] w fun e w' => Below w.heap.size w w' ∧ e = .returned (.bool true) := by
  go_enter Tryz.func13, Tryz.ntmps13
  go_upto_region 1 with fail
  generalize hW : World.alloc w _ = W
  have hWs : W.heap.size = w.heap.size + 1 := by subst hW; simp
  have hw : Below w.heap.size w W := by subst hW; exact (Below.refl _ _).alloc (Nat.le_refl _) _
  have KS : ∀ w', Below W.heap.size W w' → (w'.cell? ⟨w.heap.size, 1, none⟩ = some (.int .u64 ax) ∧ w'.cell? ⟨w.heap.size, 2, none⟩ = some (.int .u64 ay) ∧ w'.cell? ⟨w.heap.size, 9, none⟩ = some (.slice (some ad) n sc)) := by
    intro w' hb
    obtain ⟨hc, _⟩ := bcell hb
    refine ⟨?_, ?_, ?_⟩
    all_goals (rw [hc _ _ (by omega)]; subst hW; simp [go_sem])
  have HSRC : Hid (∀ w', Below W.heap.size W w' → SrcAt w' (.slice (some ad) n sc) n ps) := fun w' hb => SrcAt.kept (w := w) (hv) (hw.trans (hb.mono hw.size))
  clear hW hWs hv
  have hS0 := KS W (Below.refl _ _)
  go_wp2_with (first | (go_at_call 27; go_must (refine (lent_any _ n ps _ (HSRC.out _ (Below.refl _ _)) hn (by omega)).mono ?_; rintro e w1 ⟨rfl, hrow1, hb1⟩; have hS1 := KS w1 hb1; have hH1 := lt_of_row hrow1; have HR1 : Hid (w1.heap[W.heap.size]? = some (.cells (ptCells (ps ++ tail3)).toArray 24 (0, 0))) := hrow1; clear hrow1)) | (go_at_call 28; go_must (refine (insideE_no1 _ n ps ax ay _ (sl_of_row HR1.out hn) hn (by omega) h64 hok).mono ?_; rintro e w2 ⟨hb2, rfl⟩; have hW2 : Below W.heap.size W w2 := below_step hb2 hb1; have hS2 := KS w2 hW2; have HR2 : Hid (w2.heap[W.heap.size]? = some (.cells (ptCells (ps ++ tail3)).toArray 24 (0, 0))) := (hb2.block _ hH1).trans HR1.out)) | (go_at_call 29; go_must (refine (whole_any W.heap.size n _ ps _ HR2.out (HSRC.out _ hW2) hn (by omega)).mono ?_; rintro e w3 ⟨rfl, hb3⟩; have hW3 : Below W.heap.size W w3 := hW2.trans hb3; have hS3 := KS w3 hW3)) | (go_at_call 20; go_must (refine (num_any _ _).mono ?_; rintro e w9 ⟨rfl, rfl⟩)) | (go_at_call 15; have g4 := hb4; go_must (refine (points_yes _ 1 [(ax, ay)] _ (src_one (by simp)) rfl (by omega) hp64 hpk).mono ?_; rintro e w5 ⟨hb5, v5, rfl, hP5⟩; obtain ⟨g5, c5, nx, ox, kx, lx, ny, oy, ky, ly, hf5, hc5, hx5, hy5, sx5, sy5⟩ := poly_one hP5; subst hf5; have hbb5 : Below w4.heap.size w4 w5 := below_alloc_of _ hb5; have hW5 : Below W.heap.size W w5 := below_step hbb5 hW4)) | (go_at_call 15; go_must (refine (points_no _ n ps _ (HSRC.out _ hW3) hn (by omega) h64 hok).mono ?_; rintro e w4 ⟨hb4, rfl⟩; have hW4 : Below W.heap.size W w4 := below_step hb4 hW3; have hS4 := KS w4 hW4)))
  go_ret
  exact ⟨hw.trans (Below.mono (B := W.heap.size) hW5 hw.size), rfl⟩

set_option maxHeartbeats 8000000 in
set_option maxRecDepth 100000 in
theorem inlaw_no1n (ad : Addr) (sc : Nat) (n ax ay bx by' cx cy dx dy : Nat) (ps : List (Nat × Nat)) (w : World) (hv : SrcAt w (.slice (some ad) n sc) n ps) (hn : ps.length = n) (hnm : n ≤ 100) (h64 : ∀ p ∈ ps, p.1 < 2 ^ 64 ∧ p.2 < 2 ^ 64) (hp64 : ∀ p ∈ [(ax, ay)], p.1 < 2 ^ 64 ∧ p.2 < 2 ^ 64) (hok : okPts ps = false) (hpk : okPts [(ax, ay)] = false) :
    Calls Tryz.prog 13 #[.agg #[.int .i64 5, .int .u64 ax, .int .u64 ay, .int .u64 bx, .int .u64 by', .int .u64 cx, .int .u64 cy, .int .u64 dx, .int .u64 dy, .slice (some ad) n sc]] w fun e w' => Below w.heap.size w w' ∧ e = .returned (.bool true) := by
  go_enter Tryz.func13, Tryz.ntmps13
  go_upto_region 1 with fail
  generalize hW : World.alloc w _ = W
  have hWs : W.heap.size = w.heap.size + 1 := by subst hW; simp
  have hw : Below w.heap.size w W := by subst hW; exact (Below.refl _ _).alloc (Nat.le_refl _) _
  have KS : ∀ w', Below W.heap.size W w' → (w'.cell? ⟨w.heap.size, 1, none⟩ = some (.int .u64 ax) ∧ w'.cell? ⟨w.heap.size, 2, none⟩ = some (.int .u64 ay) ∧ w'.cell? ⟨w.heap.size, 9, none⟩ = some (.slice (some ad) n sc)) := by
    intro w' hb
    obtain ⟨hc, _⟩ := bcell hb
    refine ⟨?_, ?_, ?_⟩
    all_goals (rw [hc _ _ (by omega)]; subst hW; simp [go_sem])
  have HSRC : Hid (∀ w', Below W.heap.size W w' → SrcAt w' (.slice (some ad) n sc) n ps) := fun w' hb => SrcAt.kept (w := w) (hv) (hw.trans (hb.mono hw.size))
  clear hW hWs hv
  have hS0 := KS W (Below.refl _ _)
  go_wp2_with (first | (go_at_call 27; go_must (refine (lent_any _ n ps _ (HSRC.out _ (Below.refl _ _)) hn (by omega)).mono ?_; rintro e w1 ⟨rfl, hrow1, hb1⟩; have hS1 := KS w1 hb1; have hH1 := lt_of_row hrow1; have HR1 : Hid (w1.heap[W.heap.size]? = some (.cells (ptCells (ps ++ tail3)).toArray 24 (0, 0))) := hrow1; clear hrow1)) | (go_at_call 28; go_must (refine (insideE_no1 _ n ps ax ay _ (sl_of_row HR1.out hn) hn (by omega) h64 hok).mono ?_; rintro e w2 ⟨hb2, rfl⟩; have hW2 : Below W.heap.size W w2 := below_step hb2 hb1; have hS2 := KS w2 hW2; have HR2 : Hid (w2.heap[W.heap.size]? = some (.cells (ptCells (ps ++ tail3)).toArray 24 (0, 0))) := (hb2.block _ hH1).trans HR1.out)) | (go_at_call 29; go_must (refine (whole_any W.heap.size n _ ps _ HR2.out (HSRC.out _ hW2) hn (by omega)).mono ?_; rintro e w3 ⟨rfl, hb3⟩; have hW3 : Below W.heap.size W w3 := hW2.trans hb3; have hS3 := KS w3 hW3)) | (go_at_call 20; go_must (refine (num_any _ _).mono ?_; rintro e w9 ⟨rfl, rfl⟩)) | (go_at_call 15; have g4 := hb4; go_must (refine (points_no _ 1 [(ax, ay)] _ (src_one (by simp)) rfl (by omega) hp64 hpk).mono ?_; rintro e w5 ⟨hb5, rfl⟩; have hbb5 : Below w4.heap.size w4 w5 := below_alloc_of _ hb5; have hW5 : Below W.heap.size W w5 := below_step hbb5 hW4)) | (go_at_call 15; go_must (refine (points_no _ n ps _ (HSRC.out _ hW3) hn (by omega) h64 hok).mono ?_; rintro e w4 ⟨hb4, rfl⟩; have hW4 : Below W.heap.size W w4 := below_step hb4 hW3; have hS4 := KS w4 hW4)))
  go_ret
  exact ⟨hw.trans (Below.mono (B := W.heap.size) hW5 hw.size), rfl⟩

set_option maxHeartbeats 8000000 in
set_option maxRecDepth 100000 in
theorem inlaw_no2 (ad : Addr) (sc : Nat) (n ax ay bx by' cx cy dx dy : Nat) (ps : List (Nat × Nat)) (w : World) (hv : SrcAt w (.slice (some ad) n sc) n ps) (hn : ps.length = n) (hnm : n ≤ 100) (h64 : ∀ p ∈ ps, p.1 < 2 ^ 64 ∧ p.2 < 2 ^ 64) (hp64 : ∀ p ∈ [(ax, ay)], p.1 < 2 ^ 64 ∧ p.2 < 2 ^ 64) (hok : okPts ps = true) (hpk : okPts [(ax, ay)] = false) :
    Calls Tryz.prog 13 #[.agg #[.int .i64 5, .int .u64 ax, .int .u64 ay, .int .u64 bx, .int .u64 by', .int .u64 cx, .int .u64 cy, .int .u64 dx, .int .u64 dy, .slice (some ad) n sc]] w fun e w' => Below w.heap.size w w' ∧ e = .returned (.bool true) := by
  go_enter Tryz.func13, Tryz.ntmps13
  go_upto_region 1 with fail
  generalize hW : World.alloc w _ = W
  have hWs : W.heap.size = w.heap.size + 1 := by subst hW; simp
  have hw : Below w.heap.size w W := by subst hW; exact (Below.refl _ _).alloc (Nat.le_refl _) _
  have KS : ∀ w', Below W.heap.size W w' → (w'.cell? ⟨w.heap.size, 1, none⟩ = some (.int .u64 ax) ∧ w'.cell? ⟨w.heap.size, 2, none⟩ = some (.int .u64 ay) ∧ w'.cell? ⟨w.heap.size, 9, none⟩ = some (.slice (some ad) n sc)) := by
    intro w' hb
    obtain ⟨hc, _⟩ := bcell hb
    refine ⟨?_, ?_, ?_⟩
    all_goals (rw [hc _ _ (by omega)]; subst hW; simp [go_sem])
  have HSRC : Hid (∀ w', Below W.heap.size W w' → SrcAt w' (.slice (some ad) n sc) n ps) := fun w' hb => SrcAt.kept (w := w) (hv) (hw.trans (hb.mono hw.size))
  clear hW hWs hv
  have hS0 := KS W (Below.refl _ _)
  go_wp2_with (first | (go_at_call 27; go_must (refine (lent_any _ n ps _ (HSRC.out _ (Below.refl _ _)) hn (by omega)).mono ?_; rintro e w1 ⟨rfl, hrow1, hb1⟩; have hS1 := KS w1 hb1; have hH1 := lt_of_row hrow1; have HR1 : Hid (w1.heap[W.heap.size]? = some (.cells (ptCells (ps ++ tail3)).toArray 24 (0, 0))) := hrow1; clear hrow1)) | (go_at_call 28; go_must (refine (insideE_no2 _ n ps ax ay _ (sl_of_row HR1.out hn) hn (by omega) h64 hok hp64 hpk).mono ?_; rintro e w2 ⟨hb2, rfl⟩; have hW2 : Below W.heap.size W w2 := below_step hb2 hb1; have hS2 := KS w2 hW2; have HR2 : Hid (w2.heap[W.heap.size]? = some (.cells (ptCells (ps ++ tail3)).toArray 24 (0, 0))) := (hb2.block _ hH1).trans HR1.out)) | (go_at_call 29; go_must (refine (whole_any W.heap.size n _ ps _ HR2.out (HSRC.out _ hW2) hn (by omega)).mono ?_; rintro e w3 ⟨rfl, hb3⟩; have hW3 : Below W.heap.size W w3 := hW2.trans hb3; have hS3 := KS w3 hW3)) | (go_at_call 20; go_must (refine (num_any _ _).mono ?_; rintro e w9 ⟨rfl, rfl⟩)) | (go_at_call 15; have g4 := hb4; go_must (refine (points_no _ 1 [(ax, ay)] _ (src_one (by simp)) rfl (by omega) hp64 hpk).mono ?_; rintro e w5 ⟨hb5, rfl⟩; have hbb5 : Below w4.heap.size w4 w5 := below_alloc_of _ hb5; have hW5 : Below W.heap.size W w5 := below_step hbb5 hW4)) | (go_at_call 15; go_must (refine (points_yes _ n ps _ (HSRC.out _ hW3) hn (by omega) h64 hok).mono ?_; rintro e w4 ⟨hb4, v4, rfl, hP4⟩; obtain ⟨o4, c4, hf4⟩ := hP4.form; subst hf4; have hW4 : Below W.heap.size W w4 := below_step hb4 hW3; have hS4 := KS w4 hW4)))
  go_ret
  exact ⟨hw.trans (Below.mono (B := W.heap.size) hW5 hw.size), rfl⟩

set_option maxHeartbeats 8000000 in
set_option maxRecDepth 100000 in
theorem inlaw_ok (ad : Addr) (sc : Nat) (n ax ay bx by' cx cy dx dy : Nat) (ps : List (Nat × Nat)) (w : World) (hv : SrcAt w (.slice (some ad) n sc) n ps) (hn : ps.length = n) (hnm : n ≤ 100) (h64 : ∀ p ∈ ps, p.1 < 2 ^ 64 ∧ p.2 < 2 ^ 64) (hp64 : ∀ p ∈ [(ax, ay)], p.1 < 2 ^ 64 ∧ p.2 < 2 ^ 64) (hok : okPts ps = true) (hpk : okPts [(ax, ay)] = true) :
    Calls Tryz.prog 13 #[.agg #[.int .i64 5, .int .u64 ax, .int .u64 ay, .int .u64 bx, .int .u64 by', .int .u64 cx, .int .u64 cy, .int .u64 dx, .int .u64 dy, .slice (some ad) n sc]] w fun e w' => Below w.heap.size w w' ∧ e = .returned (.bool true) := by
  go_enter Tryz.func13, Tryz.ntmps13
  go_upto_region 1 with fail
  generalize hW : World.alloc w _ = W
  have hWs : W.heap.size = w.heap.size + 1 := by subst hW; simp
  have hw : Below w.heap.size w W := by subst hW; exact (Below.refl _ _).alloc (Nat.le_refl _) _
  have KS : ∀ w', Below W.heap.size W w' → (w'.cell? ⟨w.heap.size, 1, none⟩ = some (.int .u64 ax) ∧ w'.cell? ⟨w.heap.size, 2, none⟩ = some (.int .u64 ay) ∧ w'.cell? ⟨w.heap.size, 9, none⟩ = some (.slice (some ad) n sc)) := by
    intro w' hb
    obtain ⟨hc, _⟩ := bcell hb
    refine ⟨?_, ?_, ?_⟩
    all_goals (rw [hc _ _ (by omega)]; subst hW; simp [go_sem])
  have HSRC : Hid (∀ w', Below W.heap.size W w' → SrcAt w' (.slice (some ad) n sc) n ps) := fun w' hb => SrcAt.kept (w := w) (hv) (hw.trans (hb.mono hw.size))
  clear hW hWs hv
  have hS0 := KS W (Below.refl _ _)
  go_wp2_with (first | (go_at_call 27; go_must (refine (lent_any _ n ps _ (HSRC.out _ (Below.refl _ _)) hn (by omega)).mono ?_; rintro e w1 ⟨rfl, hrow1, hb1⟩; have hS1 := KS w1 hb1; have hH1 := lt_of_row hrow1; have HR1 : Hid (w1.heap[W.heap.size]? = some (.cells (ptCells (ps ++ tail3)).toArray 24 (0, 0))) := hrow1; clear hrow1)) | (go_at_call 28; go_must (refine (insideE_ok _ n ps ax ay _ (sl_of_row HR1.out hn) hn (by omega) h64 hok hp64 hpk).mono ?_; rintro e w2 ⟨hb2, rfl⟩; have hW2 : Below W.heap.size W w2 := below_step hb2 hb1; have hS2 := KS w2 hW2; have HR2 : Hid (w2.heap[W.heap.size]? = some (.cells (ptCells (ps ++ tail3)).toArray 24 (0, 0))) := (hb2.block _ hH1).trans HR1.out)) | (go_at_call 29; go_must (refine (whole_any W.heap.size n _ ps _ HR2.out (HSRC.out _ hW2) hn (by omega)).mono ?_; rintro e w3 ⟨rfl, hb3⟩; have hW3 : Below W.heap.size W w3 := hW2.trans hb3; have hS3 := KS w3 hW3)) | (go_at_call 20; go_must (refine (num_any _ _).mono ?_; rintro e w9 ⟨rfl, rfl⟩)) | (go_at_call 15; have g4 := hb4; go_must (refine (points_yes _ 1 [(ax, ay)] _ (src_one (by simp)) rfl (by omega) hp64 hpk).mono ?_; rintro e w5 ⟨hb5, v5, rfl, hP5⟩; obtain ⟨g5, c5, nx, ox, kx, lx, ny, oy, ky, ly, hf5, hc5, hx5, hy5, sx5, sy5⟩ := poly_one hP5; subst hf5; have hbb5 : Below w4.heap.size w4 w5 := below_alloc_of _ hb5; have hW5 : Below W.heap.size W w5 := below_step hbb5 hW4)) | (go_at_call 15; go_must (refine (points_yes _ n ps _ (HSRC.out _ hW3) hn (by omega) h64 hok).mono ?_; rintro e w4 ⟨hb4, v4, rfl, hP4⟩; obtain ⟨o4, c4, hf4⟩ := hP4.form; subst hf4; have hW4 : Below W.heap.size W w4 := below_step hb4 hW3; have hS4 := KS w4 hW4)) | (go_at_call 30; go_must (refine (rinside_gen _ n ps nx ox kx lx (crd ax) ny oy ky ly (crd ay) _ (hP4.kept hbb5) (by omega) hx5 sx5 hy5 sy5).mono ?_; rintro e w6 ⟨hb6, rfl⟩; have hW6 : Below W.heap.size W w6 := below_step hb6 hW5)))
  go_ret
  exact ⟨hw.trans (Below.mono (B := W.heap.size) hW6 hw.size), rfl⟩

set_option maxHeartbeats 8000000 in
set_option maxRecDepth 100000 in
theorem inlaw_no2nil (ax ay bx by' cx cy dx dy : Nat) (ps : List (Nat × Nat)) (w : World) (hn : ps.length = 0) (h64 : ∀ p ∈ ps, p.1 < 2 ^ 64 ∧ p.2 < 2 ^ 64) (hp64 : ∀ p ∈ [(ax, ay)], p.1 < 2 ^ 64 ∧ p.2 < 2 ^ 64) (hok : okPts ps = true) (hpk : okPts [(ax, ay)] = false) :
    Calls Tryz.prog 13 #[.agg #[.int .i64 5, .int .u64 ax, .int .u64 ay, .int .u64 bx, .int .u64 by', .int .u64 cx, .int .u64 cy, .int .u64 dx, .int .u64 dy, .slice none 0 0]] w fun e w' => Below w.heap.size w w' ∧ e = .returned (.bool true) := by
  go_enter Tryz.func13, Tryz.ntmps13
  go_upto_region 1 with fail
  generalize hW : World.alloc w _ = W
  have hWs : W.heap.size = w.heap.size + 1 := by subst hW; simp
  have hw : Below w.heap.size w W := by subst hW; exact (Below.refl _ _).alloc (Nat.le_refl _) _
  have KS : ∀ w', Below W.heap.size W w' → (w'.cell? ⟨w.heap.size, 1, none⟩ = some (.int .u64 ax) ∧ w'.cell? ⟨w.heap.size, 2, none⟩ = some (.int .u64 ay) ∧ w'.cell? ⟨w.heap.size, 9, none⟩ = some (.slice none 0 0)) := by
    intro w' hb
    obtain ⟨hc, _⟩ := bcell hb
    refine ⟨?_, ?_, ?_⟩
    all_goals (rw [hc _ _ (by omega)]; subst hW; simp [go_sem])
  have HSRC : Hid (∀ w', Below W.heap.size W w' → SrcAt w' (.slice none 0 0) 0 ps) := fun w' hb => SrcAt.kept (w := w) (.inl ⟨rfl, rfl⟩) (hw.trans (hb.mono hw.size))
  clear hW hWs 
  have hS0 := KS W (Below.refl _ _)
  go_wp2_with (first | (go_at_call 27; go_must (refine (lent_any _ 0 ps _ (HSRC.out _ (Below.refl _ _)) hn (by omega)).mono ?_; rintro e w1 ⟨rfl, hrow1, hb1⟩; have hS1 := KS w1 hb1; have hH1 := lt_of_row hrow1; have HR1 : Hid (w1.heap[W.heap.size]? = some (.cells (ptCells (ps ++ tail3)).toArray 24 (0, 0))) := hrow1; clear hrow1)) | (go_at_call 28; go_must (refine (insideE_no2 _ 0 ps ax ay _ (.inl ⟨rfl, rfl⟩) hn (by omega) h64 hok hp64 hpk).mono ?_; rintro e w2 ⟨hb2, rfl⟩; have hW2 : Below W.heap.size W w2 := below_step hb2 hb1; have hS2 := KS w2 hW2; have HR2 : Hid (w2.heap[W.heap.size]? = some (.cells (ptCells (ps ++ tail3)).toArray 24 (0, 0))) := (hb2.block _ hH1).trans HR1.out)) | (go_at_call 29; go_must (refine (whole_any W.heap.size 0 _ ps _ HR2.out (HSRC.out _ hW2) hn (by omega)).mono ?_; rintro e w3 ⟨rfl, hb3⟩; have hW3 : Below W.heap.size W w3 := hW2.trans hb3; have hS3 := KS w3 hW3)) | (go_at_call 20; go_must (refine (num_any _ _).mono ?_; rintro e w9 ⟨rfl, rfl⟩)) | (go_at_call 15; have g4 := hb4; go_must (refine (points_no _ 1 [(ax, ay)] _ (src_one (by simp)) rfl (by omega) hp64 hpk).mono ?_; rintro e w5 ⟨hb5, rfl⟩; have hbb5 : Below w4.heap.size w4 w5 := below_alloc_of _ hb5; have hW5 : Below W.heap.size W w5 := below_step hbb5 hW4)) | (go_at_call 15; go_must (refine (points_yes _ 0 ps _ (HSRC.out _ hW3) hn (by omega) h64 hok).mono ?_; rintro e w4 ⟨hb4, v4, rfl, hP4⟩; obtain ⟨o4, c4, hf4⟩ := hP4.form; subst hf4; have hW4 : Below W.heap.size W w4 := below_step hb4 hW3; have hS4 := KS w4 hW4)))
  go_ret
  exact ⟨hw.trans (Below.mono (B := W.heap.size) hW5 hw.size), rfl⟩

set_option maxHeartbeats 8000000 in
set_option maxRecDepth 100000 in
theorem inlaw_oknil (ax ay bx by' cx cy dx dy : Nat) (ps : List (Nat × Nat)) (w : World) (hn : ps.length = 0) (h64 : ∀ p ∈ ps, p.1 < 2 ^ 64 ∧ p.2 < 2 ^ 64) (hp64 : ∀ p ∈ [(ax, ay)], p.1 < 2 ^ 64 ∧ p.2 < 2 ^ 64) (hok : okPts ps = true) (hpk : okPts [(ax, ay)] = true) :
    Calls Tryz.prog 13 #[.agg #[.int .i64 5, .int .u64 ax, .int .u64 ay, .int .u64 bx, .int .u64 by', .int .u64 cx, .int .u64 cy, .int .u64 dx, .int .u64 dy, .slice none 0 0]] w fun e w' => Below w.heap.size w w' ∧ e = .returned (.bool true) := by
  go_enter Tryz.func13, Tryz.ntmps13
  go_upto_region 1 with fail
  generalize hW : World.alloc w _ = W
  have hWs : W.heap.size = w.heap.size + 1 := by subst hW; simp
  have hw : Below w.heap.size w W := by subst hW; exact (Below.refl _ _).alloc (Nat.le_refl _) _
  have KS : ∀ w', Below W.heap.size W w' → (w'.cell? ⟨w.heap.size, 1, none⟩ = some (.int .u64 ax) ∧ w'.cell? ⟨w.heap.size, 2, none⟩ = some (.int .u64 ay) ∧ w'.cell? ⟨w.heap.size, 9, none⟩ = some (.slice none 0 0)) := by
    intro w' hb
    obtain ⟨hc, _⟩ := bcell hb
    refine ⟨?_, ?_, ?_⟩
    all_goals (rw [hc _ _ (by omega)]; subst hW; simp [go_sem])
  have HSRC : Hid (∀ w', Below W.heap.size W w' → SrcAt w' (.slice none 0 0) 0 ps) := fun w' hb => SrcAt.kept (w := w) (.inl ⟨rfl, rfl⟩) (hw.trans (hb.mono hw.size))
  clear hW hWs 
  have hS0 := KS W (Below.refl _ _)
  go_wp2_with (first | (go_at_call 27; go_must (refine (lent_any _ 0 ps _ (HSRC.out _ (Below.refl _ _)) hn (by omega)).mono ?_; rintro e w1 ⟨rfl, hrow1, hb1⟩; have hS1 := KS w1 hb1; have hH1 := lt_of_row hrow1; have HR1 : Hid (w1.heap[W.heap.size]? = some (.cells (ptCells (ps ++ tail3)).toArray 24 (0, 0))) := hrow1; clear hrow1)) | (go_at_call 28; go_must (refine (insideE_ok _ 0 ps ax ay _ (.inl ⟨rfl, rfl⟩) hn (by omega) h64 hok hp64 hpk).mono ?_; rintro e w2 ⟨hb2, rfl⟩; have hW2 : Below W.heap.size W w2 := below_step hb2 hb1; have hS2 := KS w2 hW2; have HR2 : Hid (w2.heap[W.heap.size]? = some (.cells (ptCells (ps ++ tail3)).toArray 24 (0, 0))) := (hb2.block _ hH1).trans HR1.out)) | (go_at_call 29; go_must (refine (whole_any W.heap.size 0 _ ps _ HR2.out (HSRC.out _ hW2) hn (by omega)).mono ?_; rintro e w3 ⟨rfl, hb3⟩; have hW3 : Below W.heap.size W w3 := hW2.trans hb3; have hS3 := KS w3 hW3)) | (go_at_call 20; go_must (refine (num_any _ _).mono ?_; rintro e w9 ⟨rfl, rfl⟩)) | (go_at_call 15; have g4 := hb4; go_must (refine (points_yes _ 1 [(ax, ay)] _ (src_one (by simp)) rfl (by omega) hp64 hpk).mono ?_; rintro e w5 ⟨hb5, v5, rfl, hP5⟩; obtain ⟨g5, c5, nx, ox, kx, lx, ny, oy, ky, ly, hf5, hc5, hx5, hy5, sx5, sy5⟩ := poly_one hP5; subst hf5; have hbb5 : Below w4.heap.size w4 w5 := below_alloc_of _ hb5; have hW5 : Below W.heap.size W w5 := below_step hbb5 hW4)) | (go_at_call 15; go_must (refine (points_yes _ 0 ps _ (HSRC.out _ hW3) hn (by omega) h64 hok).mono ?_; rintro e w4 ⟨hb4, v4, rfl, hP4⟩; obtain ⟨o4, c4, hf4⟩ := hP4.form; subst hf4; have hW4 : Below W.heap.size W w4 := below_step hb4 hW3; have hS4 := KS w4 hW4)) | (go_at_call 30; go_must (refine (rinside_gen _ 0 ps nx ox kx lx (crd ax) ny oy ky ly (crd ay) _ (hP4.kept hbb5) (by omega) hx5 sx5 hy5 sy5).mono ?_; rintro e w6 ⟨hb6, rfl⟩; have hW6 : Below W.heap.size W w6 := below_step hb6 hW5)))
  go_ret
  exact ⟨hw.trans (Below.mono (B := W.heap.size) hW6 hw.size), rfl⟩

end Go.Proofs.YtbjjkfmdkmbcfaaGreat
