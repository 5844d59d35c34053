import Derived.Test.YtbjjkfmdkmbcfaaGreatMLl
import Derived.Test.YtbjjkfmdkmbcfaaGreatMSc
import Derived.Test.YtbjjkfmdkmbcfaaGreatMWz
namespace Go.Proofs.YtbjjkfmdkmbcfaaGreat
open Go.RowKit
open PlLv

attribute [local go_sem ↓] Go.wp_at_zero Go.wp_at_succ

theorem eql_nil (w : World) (a : Option Addr) (l c : Nat) : (binOp .eql 26 (.slice a l c) (.slice none 0 0)).run Tryz.prog w = .ok (.bool a.isNone) w := by
  have h := run_equal_slice_nil (P := Tryz.prog) (w := w) 26 24 a l c Tryz.underlying26
  simp [binOp, h]

attribute [local go_sem] eql_nil

theorem SrcAt.kept {w w' : World} {v : Value} {n : Nat} {ps : List (Nat × Nat)} (h : SrcAt w v n ps) (hb : Below w.heap.size w w') : SrcAt w' v n ps := by
  rcases h with h | h | ⟨g, off, c, rfl, hg, hp⟩
  · exact .inl h
  · exact .inr (.inl h)
  · refine .inr (.inr ⟨g, off, c, rfl, Nat.lt_of_lt_of_le hg hb.size, fun t ht => ?_⟩)
    obtain ⟨hc, _⟩ := bcell hb
    rw [hc _ _ hg, hc _ _ hg]
    exact hp t ht

theorem src_one {w : World} {x y : Nat} {b : Nat} {t : TypeId} (hb : b = w.heap.size) : SrcAt (w.alloc (.cells #[.int .u64 x, .int .u64 y] t)) (.slice (some ⟨b, 0, none⟩) 1 1) 1 [(x, y)] := by
  subst hb
  refine .inr (.inr ⟨_, 0, _, rfl, by simp, fun t ht => ?_⟩)
  match t, ht with
  | 0, _ => exact ⟨by simp [go_sem], by simp [go_sem]⟩

theorem sl_of_row {w : World} {H n c : Nat} {ps : List (Nat × Nat)} (h : w.heap[H]? = some (.cells (ptCells (ps ++ tail3)).toArray 24 (0, 0))) (hn : ps.length = n) : SlAt w (.slice (some ⟨H, 0, none⟩) n c) n ps := by
  refine .inr ⟨H, c, rfl, lt_of_row h, fun t ht => ?_⟩
  have hr := (row_of_full h t).cells (by simp [tail3]; omega)
  have e : (ps ++ tail3).getD t (0, 0) = ps.getD t (0, 0) := by
    rw [List.getD_eq_getElem?_getD, List.getD_eq_getElem?_getD, List.getElem?_append_left ht]
  rw [e] at hr
  rw [Nat.zero_add]
  exact hr.1

theorem poly_one {w : World} {v : Value} {x y : Nat} (h : PolyAt w v 1 [(x, y)]) : ∃ g c nx ox kx lx ny oy ky ly, v = .slice (some ⟨g, 0, none⟩) 1 c ∧ (w.cell? ⟨g, 0, none⟩ = some (.bool nx) ∧ w.cell? ⟨g, 1, none⟩ = some (.slice ox lx.length kx) ∧ w.cell? ⟨g, 2, none⟩ = some (.bool ny) ∧ w.cell? ⟨g, 3, none⟩ = some (.slice oy ly.length ky)) ∧ Bg w nx (.slice ox (lx : List Nat).length kx) lx (crd x) ∧ Bg w ny (.slice oy (ly : List Nat).length ky) ly (crd y) ∧ (crd x).natAbs < 2 ^ 200 ∧ (crd y).natAbs < 2 ^ 200 := by
  rcases h with ⟨_, h⟩ | ⟨g, c, rfl, hg, f, hf⟩
  · cases h
  · obtain ⟨hc, hx, hy, hs⟩ := hf 0 (by decide)
    generalize f 0 = q at *
    obtain ⟨nx, vx, lx, ny, vy, ly⟩ := q
    obtain ⟨ox, kx, hfx⟩ := bg_form hx
    obtain ⟨oy, ky, hfy⟩ := bg_form hy
    (try simp only at hfx hfy)
    subst hfx hfy
    exact ⟨g, c, nx, ox, kx, lx, ny, oy, ky, ly, rfl, hc, hx, hy, hs.1, hs.2⟩

set_option maxHeartbeats 8000000 in
set_option maxRecDepth 100000 in
theorem inlaw_many (ad : Addr) (sc : Nat) (n ax ay bx by' cx cy dx dy : Nat) (ps : List (Nat × Nat)) (w : World) (hv : SrcAt w (.slice (some ad) n sc) n ps) (hn : ps.length = n) (hm : 100 < n) (hnb : n ≤ 8796093021952) :
    Calls Tryz.prog 13 #[.agg #[.int .i64 5, .int .u64 ax, .int .u64 ay, .int .u64 bx, .int .u64 by', .int .u64 cx, .int .u64 cy, .int .u64 dx, .int .u64 dy, .slice (some ad) n sc]] w fun e w' => Below w.heap.size w w' ∧ e = .returned (.bool true) := by
  go_enter Tryz.func13, Tryz.ntmps13
  go_upto_region 1 with fail
  generalize hW : World.alloc w _ = W
  have hWs : W.heap.size = w.heap.size + 1 := by subst hW; simp
  have hw : Below w.heap.size w W := by subst hW; exact (Below.refl _ _).alloc (Nat.le_refl _) _
  have KS : ∀ w', Below W.heap.size W w' → (w'.cell? ⟨w.heap.size, 1, none⟩ = some (.int .u64 ax) ∧ w'.cell? ⟨w.heap.size, 2, none⟩ = some (.int .u64 ay) ∧ w'.cell? ⟨w.heap.size, 9, none⟩ = some (.slice (some ad) n sc)) := by
    intro w' hb
    obtain ⟨hc, _⟩ := bcell hb
    refine ⟨?_, ?_, ?_⟩
    all_goals (rw [hc _ _ (by omega)]; subst hW; simp [go_sem])
  have HSRC : Hid (∀ w', Below W.heap.size W w' → SrcAt w' (.slice (some ad) n sc) n ps) := fun w' hb => SrcAt.kept (w := w) (hv) (hw.trans (hb.mono hw.size))
  clear hW hWs hv
  have hS0 := KS W (Below.refl _ _)
  go_wp2_with (first | (go_at_call 27; go_must (refine (lent_any _ n ps _ (HSRC.out _ (Below.refl _ _)) hn (by omega)).mono ?_; rintro e w1 ⟨rfl, hrow1, hb1⟩; have hS1 := KS w1 hb1; have hH1 := lt_of_row hrow1; have HR1 : Hid (w1.heap[W.heap.size]? = some (.cells (ptCells (ps ++ tail3)).toArray 24 (0, 0))) := hrow1; clear hrow1)) | (go_at_call 28; go_must (refine (insideE_many _ n _ ax ay _ (by omega) (by omega)).mono ?_; rintro e w2 ⟨hb2, rfl⟩; have hW2 : Below W.heap.size W w2 := below_step hb2 hb1; have hS2 := KS w2 hW2; have HR2 : Hid (w2.heap[W.heap.size]? = some (.cells (ptCells (ps ++ tail3)).toArray 24 (0, 0))) := (hb2.block _ hH1).trans HR1.out)) | (go_at_call 29; go_must (refine (whole_any W.heap.size n _ ps _ HR2.out (HSRC.out _ hW2) hn (by omega)).mono ?_; rintro e w3 ⟨rfl, hb3⟩; have hW3 : Below W.heap.size W w3 := hW2.trans hb3; have hS3 := KS w3 hW3)) | (go_at_call 20; go_must (refine (num_any _ _).mono ?_; rintro e w9 ⟨rfl, rfl⟩)))
  go_ret
  exact ⟨hw.trans (Below.mono (B := W.heap.size) hW3 hw.size), rfl⟩

set_option maxHeartbeats 8000000 in
set_option maxRecDepth 100000 in
theorem inlaw_no1y (ad : Addr) (sc : Nat) (n ax ay bx by' cx cy dx dy : Nat) (ps : List (Nat × Nat)) (w : World) (hv : SrcAt w (.slice (some ad) n sc) n ps) (hn : ps.length = n) (hnm : n ≤ 100) (h64 : ∀ p ∈ ps, p.1 < 2 ^ 64 ∧ p.2 < 2 ^ 64) (hp64 : ∀ p ∈ [(ax, ay)], p.1 < 2 ^ 64 ∧ p.2 < 2 ^ 64) (hok : okPts ps = false) (hpk : okPts [(ax, ay)] = true) :
    Calls Tryz.prog 13 #[.agg #[.int .i64 5, .int .u64 ax, .int .u64 ay, .int .u64 bx, .int .u64 by', .int .u64 cx, .int .u64 cy, .int .u64 dx, .int .u64 dy, .slice (some ad) n sc]] w fun e w' => Below w.heap.size w w' ∧ e = .returned (.bool true) := by
  go_enter Tryz.func13, Tryz.ntmps13
  go_upto_region 1 with fail
  generalize hW : World.alloc w _ = W
  have hWs : W.heap.size = w.heap.size + 1 := by subst hW; simp
  have hw : Below w.heap.size w W := by subst hW; exact (Below.refl _ _).alloc (Nat.le_refl _) _
  have KS : ∀ w', Below W.heap.size W w' → (w'.cell? ⟨w.heap.size, 1, none⟩ = some (.int .u64 ax) ∧ w'.cell? ⟨w.heap.size, 2, none⟩ = some (.int .u64 ay) ∧ w'.cell? ⟨w.heap.size, 9, none⟩ = some (.slice (some ad) n sc)) := by
    intro w' hb
    obtain ⟨hc, _⟩ := bcell hb
    refine ⟨?_, ?_, ?_⟩
    all_goals (rw [hc _ _ (by omega)]; subst hW; simp [go_sem])
  have HSRC : Hid (∀ w', Below W.heap.size W w' → SrcAt w' (.slice (some ad) n sc) n ps) := fun w' hb => SrcAt.kept (w := w) (hv) (hw.trans (hb.mono hw.size))
  clear hW hWs hv
  have hS0 := KS W (Below.refl _ _)
  go_wp2_with (first | (go_at_call 27; go_must (refine (lent_any _ n ps _ (HSRC.out _ (Below.refl _ _)) hn (by omega)).mono ?_; rintro e w1 ⟨rfl, hrow1, hb1⟩; have hS1 := KS w1 hb1; have hH1 := lt_of_row hrow1; have HR1 : Hid (w1.heap[W.heap.size]? = some (.cells (ptCells (ps ++ tail3)).toArray 24 (0, 0))) := hrow1; clear hrow1)) | (go_at_call 28; go_must (refine (insideE_no1 _ n ps ax ay _ (sl_of_row HR1.out hn) hn (by omega) h64 hok).mono ?_; rintro e w2 ⟨hb2, rfl⟩; have hW2 : Below W.heap.size W w2 := below_step hb2 hb1; have hS2 := KS w2 hW2; have HR2 : Hid (w2.heap[W.heap.size]? = some (.cells (ptCells (ps ++ tail3)).toArray 24 (0, 0))) := (hb2.block _ hH1).trans HR1.out)) | (go_at_call 29; go_must (refine (whole_any W.heap.size n _ ps _ HR2.out (HSRC.out _ hW2) hn (by omega)).mono ?_; rintro e w3 ⟨rfl, hb3⟩; have hW3 : Below W.heap.size W w3 := hW2.trans hb3; have hS3 := KS w3 hW3)) | (go_at_call 20; go_must (refine (num_any _ _).mono ?_; rintro e w9 ⟨rfl, rfl⟩)) | (go_at_call 15; have g4 := hb4; go_must (refine (points_yes _ 1 [(ax, ay)] _ (src_one (by simp)) rfl (by omega) hp64 hpk).mono ?_; rintro e w5 ⟨hb5, v5, rfl, hP5⟩; obtain ⟨g5, c5, nx, ox, kx, lx, ny, oy, ky, ly, hf5, hc5, hx5, hy5, sx5, sy5⟩ := poly_one hP5; subst hf5; have hbb5 : Below w4.heap.size w4 w5 := below_alloc_of _ hb5; have hW5 : Below W.heap.size W w5 := below_step hbb5 hW4)) | (go_at_call 15; go_must (refine (points_no _ n ps _ (HSRC.out _ hW3) hn (by omega) h64 hok).mono ?_; rintro e w4 ⟨hb4, rfl⟩; have hW4 : Below W.heap.size W w4 := below_step hb4 hW3; have hS4 := KS w4 hW4)))
  go_ret
  exact ⟨hw.trans (Below.mono (B := W.heap.size) hW5 hw.size), rfl⟩

set_option maxHeartbeats 8000000 in
set_option maxRecDepth 100000 in
theorem inlaw_no1n (ad : Addr) (sc : Nat) (n ax ay bx by' cx cy dx dy : Nat) (ps : List (Nat × Nat)) (w : World) (hv : SrcAt w (.slice (some ad) n sc) n ps) (hn : ps.length = n) (hnm : n ≤ 100) (h64 : ∀ p ∈ ps, p.1 < 2 ^ 64 ∧ p.2 < 2 ^ 64) (hp64 : ∀ p ∈ [(ax, ay)], p.1 < 2 ^ 64 ∧ p.2 < 2 ^ 64) (hok : okPts ps = false) (hpk : okPts [(ax, ay)] = false) :
    Calls Tryz.prog 13 #[.agg #[.int .i64 5, .int .u64 ax, .int .u64 ay, .int .u64 bx, .int .u64 by', .int .u64 cx, .int .u64 cy, .int .u64 dx, .int .u64 dy, .slice (some ad) n sc]] w fun e w' => Below w.heap.size w w' ∧ e = .returned (.bool true) := by
  go_enter Tryz.func13, Tryz.ntmps13
  go_upto_region 1 with fail
  generalize hW : World.alloc w _ = W
  have hWs : W.heap.size = w.heap.size + 1 := by subst hW; simp
  have hw : Below w.heap.size w W := by subst hW; exact (Below.refl _ _).alloc (Nat.le_refl _) _
  have KS : ∀ w', Below W.heap.size W w' → (w'.cell? ⟨w.heap.size, 1, none⟩ = some (.int .u64 ax) ∧ w'.cell? ⟨w.heap.size, 2, none⟩ = some (.int .u64 ay) ∧ w'.cell? ⟨w.heap.size, 9, none⟩ = some (.slice (some ad) n sc)) := by
    intro w' hb
    obtain ⟨hc, _⟩ := bcell hb
    refine ⟨?_, ?_, ?_⟩
    all_goals (rw [hc _ _ (by omega)]; subst hW; simp [go_sem])
  have HSRC : Hid (∀ w', Below W.heap.size W w' → SrcAt w' (.slice (some ad) n sc) n ps) := fun w' hb => SrcAt.kept (w := w) (hv) (hw.trans (hb.mono hw.size))
  clear hW hWs hv
  have hS0 := KS W (Below.refl _ _)
  go_wp2_with (first | (go_at_call 27; go_must (refine (lent_any _ n ps _ (HSRC.out _ (Below.refl _ _)) hn (by omega)).mono ?_; rintro e w1 ⟨rfl, hrow1, hb1⟩; have hS1 := KS w1 hb1; have hH1 := lt_of_row hrow1; have HR1 : Hid (w1.heap[W.heap.size]? = some (.cells (ptCells (ps ++ tail3)).toArray 24 (0, 0))) := hrow1; clear hrow1)) | (go_at_call 28; go_must (refine (insideE_no1 _ n ps ax ay _ (sl_of_row HR1.out hn) hn (by omega) h64 hok).mono ?_; rintro e w2 ⟨hb2, rfl⟩; have hW2 : Below W.heap.size W w2 := below_step hb2 hb1; have hS2 := KS w2 hW2; have HR2 : Hid (w2.heap[W.heap.size]? = some (.cells (ptCells (ps ++ tail3)).toArray 24 (0, 0))) := (hb2.block _ hH1).trans HR1.out)) | (go_at_call 29; go_must (refine (whole_any W.heap.size n _ ps _ HR2.out (HSRC.out _ hW2) hn (by omega)).mono ?_; rintro e w3 ⟨rfl, hb3⟩; have hW3 : Below W.heap.size W w3 := hW2.trans hb3; have hS3 := KS w3 hW3)) | (go_at_call 20; go_must (refine (num_any _ _).mono ?_; rintro e w9 ⟨rfl, rfl⟩)) | (go_at_call 15; have g4 := hb4; go_must (refine (points_no _ 1 [(ax, ay)] _ (src_one (by simp)) rfl (by omega) hp64 hpk).mono ?_; rintro e w5 ⟨hb5, rfl⟩; have hbb5 : Below w4.heap.size w4 w5 := below_alloc_of _ hb5; have hW5 : Below W.heap.size W w5 := below_step hbb5 hW4)) | (go_at_call 15; go_must (refine (points_no _ n ps _ (HSRC.out _ hW3) hn (by omega) h64 hok).mono ?_; rintro e w4 ⟨hb4, rfl⟩; have hW4 : Below W.heap.size W w4 := below_step hb4 hW3; have hS4 := KS w4 hW4)))
  go_ret
  exact ⟨hw.trans (Below.mono (B := W.heap.size) hW5 hw.size), rfl⟩

set_option maxHeartbeats 8000000 in
set_option maxRecDepth 100000 in
theorem inlaw_no2 (ad : Addr) (sc : Nat) (n ax ay bx by' cx cy dx dy : Nat) (ps : List (Nat × Nat)) (w : World) (hv : SrcAt w (.slice (some ad) n sc) n ps) (hn : ps.length = n) (hnm : n ≤ 100) (h64 : ∀ p ∈ ps, p.1 < 2 ^ 64 ∧ p.2 < 2 ^ 64) (hp64 : ∀ p ∈ [(ax, ay)], p.1 < 2 ^ 64 ∧ p.2 < 2 ^ 64) (hok : okPts ps = true) (hpk : okPts [(ax, ay)] = false) :
    Calls Tryz.prog 13 #[.agg #[.int .i64 5, .int .u64 ax, .int .u64 ay, .int .u64 bx, .int .u64 by', .int .u64 cx, .int .u64 cy, .int .u64 dx, .int .u64 dy, .slice (some ad) n sc]] w fun e w' => Below w.heap.size w w' ∧ e = .returned (.bool true) := by
  go_enter Tryz.func13, Tryz.ntmps13
  go_upto_region 1 with fail
  generalize hW : World.alloc w _ = W
  have hWs : W.heap.size = w.heap.size + 1 := by subst hW; simp
  have hw : Below w.heap.size w W := by subst hW; exact (Below.refl _ _).alloc (Nat.le_refl _) _
  have KS : ∀ w', Below W.heap.size W w' → (w'.cell? ⟨w.heap.size, 1, none⟩ = some (.int .u64 ax) ∧ w'.cell? ⟨w.heap.size, 2, none⟩ = some (.int .u64 ay) ∧ w'.cell? ⟨w.heap.size, 9, none⟩ = some (.slice (some ad) n sc)) := by
    intro w' hb
    obtain ⟨hc, _⟩ := bcell hb
    refine ⟨?_, ?_, ?_⟩
    all_goals (rw [hc _ _ (by omega)]; subst hW; simp [go_sem])
  have HSRC : Hid (∀ w', Below W.heap.size W w' → SrcAt w' (.slice (some ad) n sc) n ps) := fun w' hb => SrcAt.kept (w := w) (hv) (hw.trans (hb.mono hw.size))
  clear hW hWs hv
  have hS0 := KS W (Below.refl _ _)
  go_wp2_with (first | (go_at_call 27; go_must (refine (lent_any _ n ps _ (HSRC.out _ (Below.refl _ _)) hn (by omega)).mono ?_; rintro e w1 ⟨rfl, hrow1, hb1⟩; have hS1 := KS w1 hb1; have hH1 := lt_of_row hrow1; have HR1 : Hid (w1.heap[W.heap.size]? = some (.cells (ptCells (ps ++ tail3)).toArray 24 (0, 0))) := hrow1; clear hrow1)) | (go_at_call 28; go_must (refine (insideE_no2 _ n ps ax ay _ (sl_of_row HR1.out hn) hn (by omega) h64 hok hp64 hpk).mono ?_; rintro e w2 ⟨hb2, rfl⟩; have hW2 : Below W.heap.size W w2 := below_step hb2 hb1; have hS2 := KS w2 hW2; have HR2 : Hid (w2.heap[W.heap.size]? = some (.cells (ptCells (ps ++ tail3)).toArray 24 (0, 0))) := (hb2.block _ hH1).trans HR1.out)) | (go_at_call 29; go_must (refine (whole_any W.heap.size n _ ps _ HR2.out (HSRC.out _ hW2) hn (by omega)).mono ?_; rintro e w3 ⟨rfl, hb3⟩; have hW3 : Below W.heap.size W w3 := hW2.trans hb3; have hS3 := KS w3 hW3)) | (go_at_call 20; go_must (refine (num_any _ _).mono ?_; rintro e w9 ⟨rfl, rfl⟩)) | (go_at_call 15; have g4 := hb4; go_must (refine (points_no _ 1 [(ax, ay)] _ (src_one (by simp)) rfl (by omega) hp64 hpk).mono ?_; rintro e w5 ⟨hb5, rfl⟩; have hbb5 : Below w4.heap.size w4 w5 := below_alloc_of _ hb5; have hW5 : Below W.heap.size W w5 := below_step hbb5 hW4)) | (go_at_call 15; go_must (refine (points_yes _ n ps _ (HSRC.out _ hW3) hn (by omega) h64 hok).mono ?_; rintro e w4 ⟨hb4, v4, rfl, hP4⟩; obtain ⟨o4, c4, hf4⟩ := hP4.form; subst hf4; have hW4 : Below W.heap.size W w4 := below_step hb4 hW3; have hS4 := KS w4 hW4)))
  go_ret
  exact ⟨hw.trans (Below.mono (B := W.heap.size) hW5 hw.size), rfl⟩

set_option maxHeartbeats 8000000 in
set_option maxRecDepth 100000 in
theorem inlaw_ok (ad : Addr) (sc : Nat) (n ax ay bx by' cx cy dx dy : Nat) (ps : List (Nat × Nat)) (w : World) (hv : SrcAt w (.slice (some ad) n sc) n ps) (hn : ps.length = n) (hnm : n ≤ 100) (h64 : ∀ p ∈ ps, p.1 < 2 ^ 64 ∧ p.2 < 2 ^ 64) (hp64 : ∀ p ∈ [(ax, ay)], p.1 < 2 ^ 64 ∧ p.2 < 2 ^ 64) (hok : okPts ps = true) (hpk : okPts [(ax, ay)] = true) :
    Calls Tryz.prog 13 #[.agg #[.int .i64 5, .int .u64 ax, .int .u64 ay, .int .u64 bx, .int .u64 by', .int .u64 cx, .int .u64 cy, .int .u64 dx, .int .u64 dy, .slice (some ad) n sc]] w fun e w' => Below w.heap.size w w' ∧ e = .returned (.bool true) := by
  go_enter Tryz.func13, Tryz.ntmps13
  go_upto_region 1 with fail
  generalize hW : World.alloc w _ = W
  have hWs : W.heap.size = w.heap.size + 1 := by subst hW; simp
  have hw : Below w.heap.size w W := by subst hW; exact (Below.refl _ _).alloc (Nat.le_refl _) _
  have KS : ∀ w', Below W.heap.size W w' → (w'.cell? ⟨w.heap.size, 1, none⟩ = some (.int .u64 ax) ∧ w'.cell? ⟨w.heap.size, 2, none⟩ = some (.int .u64 ay) ∧ w'.cell? ⟨w.heap.size, 9, none⟩ = some (.slice (some ad) n sc)) := by
    intro w' hb
    obtain ⟨hc, _⟩ := bcell hb
    refine ⟨?_, ?_, ?_⟩
    all_goals (rw [hc _ _ (by omega)]; subst hW; simp [go_sem])
  have HSRC : Hid (∀ w', Below W.heap.size W w' → SrcAt w' (.slice (some ad) n sc) n ps) := fun w' hb => SrcAt.kept (w := w) (hv) (hw.trans (hb.mono hw.size))
  clear hW hWs hv
  have hS0 := KS W (Below.refl _ _)
  go_wp2_with (first | (go_at_call 27; go_must (refine (lent_any _ n ps _ (HSRC.out _ (Below.refl _ _)) hn (by omega)).mono ?_; rintro e w1 ⟨rfl, hrow1, hb1⟩; have hS1 := KS w1 hb1; have hH1 := lt_of_row hrow1; have HR1 : Hid (w1.heap[W.heap.size]? = some (.cells (ptCells (ps ++ tail3)).toArray 24 (0, 0))) := hrow1; clear hrow1)) | (go_at_call 28; go_must (refine (insideE_ok _ n ps ax ay _ (sl_of_row HR1.out hn) hn (by omega) h64 hok hp64 hpk).mono ?_; rintro e w2 ⟨hb2, rfl⟩; have hW2 : Below W.heap.size W w2 := below_step hb2 hb1; have hS2 := KS w2 hW2; have HR2 : Hid (w2.heap[W.heap.size]? = some (.cells (ptCells (ps ++ tail3)).toArray 24 (0, 0))) := (hb2.block _ hH1).trans HR1.out)) | (go_at_call 29; go_must (refine (whole_any W.heap.size n _ ps _ HR2.out (HSRC.out _ hW2) hn (by omega)).mono ?_; rintro e w3 ⟨rfl, hb3⟩; have hW3 : Below W.heap.size W w3 := hW2.trans hb3; have hS3 := KS w3 hW3)) | (go_at_call 20; go_must (refine (num_any _ _).mono ?_; rintro e w9 ⟨rfl, rfl⟩)) | (go_at_call 15; have g4 := hb4; go_must (refine (points_yes _ 1 [(ax, ay)] _ (src_one (by simp)) rfl (by omega) hp64 hpk).mono ?_; rintro e w5 ⟨hb5, v5, rfl, hP5⟩; obtain ⟨g5, c5, nx, ox, kx, lx, ny, oy, ky, ly, hf5, hc5, hx5, hy5, sx5, sy5⟩ := poly_one hP5; subst hf5; have hbb5 : Below w4.heap.size w4 w5 := below_alloc_of _ hb5; have hW5 : Below W.heap.size W w5 := below_step hbb5 hW4)) | (go_at_call 15; go_must (refine (points_yes _ n ps _ (HSRC.out _ hW3) hn (by omega) h64 hok).mono ?_; rintro e w4 ⟨hb4, v4, rfl, hP4⟩; obtain ⟨o4, c4, hf4⟩ := hP4.form; subst hf4; have hW4 : Below W.heap.size W w4 := below_step hb4 hW3; have hS4 := KS w4 hW4)) | (go_at_call 30; go_must (refine (rinside_gen _ n ps nx ox kx lx (crd ax) ny oy ky ly (crd ay) _ (hP4.kept hbb5) (by omega) hx5 sx5 hy5 sy5).mono ?_; rintro e w6 ⟨hb6, rfl⟩; have hW6 : Below W.heap.size W w6 := below_step hb6 hW5)))
  go_ret
  exact ⟨hw.trans (Below.mono (B := W.heap.size) hW6 hw.size), rfl⟩

set_option maxHeartbeats 8000000 in
set_option maxRecDepth 100000 in
theorem inlaw_no2nil (ax ay bx by' cx cy dx dy : Nat) (ps : List (Nat × Nat)) (w : World) (hn : ps.length = 0) (h64 : ∀ p ∈ ps, p.1 < 2 ^ 64 ∧ p.2 < 2 ^ 64) (hp64 : ∀ p ∈ [(ax, ay)], p.1 < 2 ^ 64 ∧ p.2 < 2 ^ 64) (hok : okPts ps = true) (hpk : okPts [(ax, ay)] = false) :
    Calls Tryz.prog 13 #[.agg #[.int .i64 5, .int .u64 ax, .int .u64 ay, .int .u64 bx, .int .u64 by', .int .u64 cx, .int .u64 cy, .int .u64 dx, .int .u64 dy, .slice none 0 0]] w fun e w' => Below w.heap.size w w' ∧ e = .returned (.bool true) := by
  go_enter Tryz.func13, Tryz.ntmps13
  go_upto_region 1 with fail
  generalize hW : World.alloc w _ = W
  have hWs : W.heap.size = w.heap.size + 1 := by subst hW; simp
  have hw : Below w.heap.size w W := by subst hW; exact (Below.refl _ _).alloc (Nat.le_refl _) _
  have KS : ∀ w', Below W.heap.size W w' → (w'.cell? ⟨w.heap.size, 1, none⟩ = some (.int .u64 ax) ∧ w'.cell? ⟨w.heap.size, 2, none⟩ = some (.int .u64 ay) ∧ w'.cell? ⟨w.heap.size, 9, none⟩ = some (.slice none 0 0)) := by
    intro w' hb
    obtain ⟨hc, _⟩ := bcell hb
    refine ⟨?_, ?_, ?_⟩
    all_goals (rw [hc _ _ (by omega)]; subst hW; simp [go_sem])
  have HSRC : Hid (∀ w', Below W.heap.size W w' → SrcAt w' (.slice none 0 0) 0 ps) := fun w' hb => SrcAt.kept (w := w) (.inl ⟨rfl, rfl⟩) (hw.trans (hb.mono hw.size))
  clear hW hWs 
  have hS0 := KS W (Below.refl _ _)
  go_wp2_with (first | (go_at_call 27; go_must (refine (lent_any _ 0 ps _ (HSRC.out _ (Below.refl _ _)) hn (by omega)).mono ?_; rintro e w1 ⟨rfl, hrow1, hb1⟩; have hS1 := KS w1 hb1; have hH1 := lt_of_row hrow1; have HR1 : Hid (w1.heap[W.heap.size]? = some (.cells (ptCells (ps ++ tail3)).toArray 24 (0, 0))) := hrow1; clear hrow1)) | (go_at_call 28; go_must (refine (insideE_no2 _ 0 ps ax ay _ (.inl ⟨rfl, rfl⟩) hn (by omega) h64 hok hp64 hpk).mono ?_; rintro e w2 ⟨hb2, rfl⟩; have hW2 : Below W.heap.size W w2 := below_step hb2 hb1; have hS2 := KS w2 hW2; have HR2 : Hid (w2.heap[W.heap.size]? = some (.cells (ptCells (ps ++ tail3)).toArray 24 (0, 0))) := (hb2.block _ hH1).trans HR1.out)) | (go_at_call 29; go_must (refine (whole_any W.heap.size 0 _ ps _ HR2.out (HSRC.out _ hW2) hn (by omega)).mono ?_; rintro e w3 ⟨rfl, hb3⟩; have hW3 : Below W.heap.size W w3 := hW2.trans hb3; have hS3 := KS w3 hW3)) | (go_at_call 20; go_must (refine (num_any _ _).mono ?_; rintro e w9 ⟨rfl, rfl⟩)) | (go_at_call 15; have g4 := hb4; go_must (refine (points_no _ 1 [(ax, ay)] _ (src_one (by simp)) rfl (by omega) hp64 hpk).mono ?_; rintro e w5 ⟨hb5, rfl⟩; have hbb5 : Below w4.heap.size w4 w5 := below_alloc_of _ hb5; have hW5 : Below W.heap.size W w5 := below_step hbb5 hW4)) | (go_at_call 15; go_must (refine (points_yes _ 0 ps _ (HSRC.out _ hW3) hn (by omega) h64 hok).mono ?_; rintro e w4 ⟨hb4, v4, rfl, hP4⟩; obtain ⟨o4, c4, hf4⟩ := hP4.form; subst hf4; have hW4 : Below W.heap.size W w4 := below_step hb4 hW3; have hS4 := KS w4 hW4)))
  go_ret
  exact ⟨hw.trans (Below.mono (B := W.heap.size) hW5 hw.size), rfl⟩

set_option maxHeartbeats 8000000 in
set_option maxRecDepth 100000 in
theorem inlaw_oknil (ax ay bx by' cx cy dx dy : Nat) (ps : List (Nat × Nat)) (w : World) (hn : ps.length = 0) (h64 : ∀ p ∈ ps, p.1 < 2 ^ 64 ∧ p.2 < 2 ^ 64) (hp64 : ∀ p ∈ [(ax, ay)], p.1 < 2 ^ 64 ∧ p.2 < 2 ^ 64) (hok : okPts ps = true) (hpk : okPts [(ax, ay)] = true) :
    Calls Tryz.prog 13 #[.agg #[.int .i64 5, .int .u64 ax, .int .u64 ay, .int .u64 bx, .int .u64 by', .int .u64 cx, .int .u64 cy, .int .u64 dx, .int .u64 dy, .slice none 0 0]] w fun e w' => Below w.heap.size w w' ∧ e = .returned (.bool true) := by
  go_enter Tryz.func13, Tryz.ntmps13
  go_upto_region 1 with fail
  generalize hW : World.alloc w _ = W
  have hWs : W.heap.size = w.heap.size + 1 := by subst hW; simp
  have hw : Below w.heap.size w W := by subst hW; exact (Below.refl _ _).alloc (Nat.le_refl _) _
  have KS : ∀ w', Below W.heap.size W w' → (w'.cell? ⟨w.heap.size, 1, none⟩ = some (.int .u64 ax) ∧ w'.cell? ⟨w.heap.size, 2, none⟩ = some (.int .u64 ay) ∧ w'.cell? ⟨w.heap.size, 9, none⟩ = some (.slice none 0 0)) := by
    intro w' hb
    obtain ⟨hc, _⟩ := bcell hb
    refine ⟨?_, ?_, ?_⟩
    all_goals (rw [hc _ _ (by omega)]; subst hW; simp [go_sem])
  have HSRC : Hid (∀ w', Below W.heap.size W w' → SrcAt w' (.slice none 0 0) 0 ps) := fun w' hb => SrcAt.kept (w := w) (.inl ⟨rfl, rfl⟩) (hw.trans (hb.mono hw.size))
  clear hW hWs 
  have hS0 := KS W (Below.refl _ _)
  go_wp2_with (first | (go_at_call 27; go_must (refine (lent_any _ 0 ps _ (HSRC.out _ (Below.refl _ _)) hn (by omega)).mono ?_; rintro e w1 ⟨rfl, hrow1, hb1⟩; have hS1 := KS w1 hb1; have hH1 := lt_of_row hrow1; have HR1 : Hid (w1.heap[W.heap.size]? = some (.cells (ptCells (ps ++ tail3)).toArray 24 (0, 0))) := hrow1; clear hrow1)) | (go_at_call 28; go_must (refine (insideE_ok _ 0 ps ax ay _ (.inl ⟨rfl, rfl⟩) hn (by omega) h64 hok hp64 hpk).mono ?_; rintro e w2 ⟨hb2, rfl⟩; have hW2 : Below W.heap.size W w2 := below_step hb2 hb1; have hS2 := KS w2 hW2; have HR2 : Hid (w2.heap[W.heap.size]? = some (.cells (ptCells (ps ++ tail3)).toArray 24 (0, 0))) := (hb2.block _ hH1).trans HR1.out)) | (go_at_call 29; go_must (refine (whole_any W.heap.size 0 _ ps _ HR2.out (HSRC.out _ hW2) hn (by omega)).mono ?_; rintro e w3 ⟨rfl, hb3⟩; have hW3 : Below W.heap.size W w3 := hW2.trans hb3; have hS3 := KS w3 hW3)) | (go_at_call 20; go_must (refine (num_any _ _).mono ?_; rintro e w9 ⟨rfl, rfl⟩)) | (go_at_call 15; have g4 := hb4; go_must (refine (points_yes _ 1 [(ax, ay)] _ (src_one (by simp)) rfl (by omega) hp64 hpk).mono ?_; rintro e w5 ⟨hb5, v5, rfl, hP5⟩; obtain ⟨g5, c5, nx, ox, kx, lx, ny, oy, ky, ly, hf5, hc5, hx5, hy5, sx5, sy5⟩ := poly_one hP5; subst hf5; have hbb5 : Below w4.heap.size w4 w5 := below_alloc_of _ hb5; have hW5 : Below W.heap.size W w5 := below_step hbb5 hW4)) | (go_at_call 15; go_must (refine (points_yes _ 0 ps _ (HSRC.out _ hW3) hn (by omega) h64 hok).mono ?_; rintro e w4 ⟨hb4, v4, rfl, hP4⟩; obtain ⟨o4, c4, hf4⟩ := hP4.form; subst hf4; have hW4 : Below W.heap.size W w4 := below_step hb4 hW3; have hS4 := KS w4 hW4)) | (go_at_call 30; go_must (refine (rinside_gen _ 0 ps nx ox kx lx (crd ax) ny oy ky ly (crd ay) _ (hP4.kept hbb5) (by omega) hx5 sx5 hy5 sy5).mono ?_; rintro e w6 ⟨hb6, rfl⟩; have hW6 : Below W.heap.size W w6 := below_step hb6 hW5)))
  go_ret
  exact ⟨hw.trans (Below.mono (B := W.heap.size) hW6 hw.size), rfl⟩

end Go.Proofs.YtbjjkfmdkmbcfaaGreat

namespace Go.Proofs.YtbjjkfmdkmbcfaaGreat.HL

abbrev Pt := Int × Int

/-- The turn of three points. -/
def cr (a b c : Pt) : Int := (b.1 - a.1) * (c.2 - a.2) - (b.2 - a.2) * (c.1 - a.1)

/-- From the least X on, of the same X from the least Y on. -/
def lx (a b : Pt) : Prop := a.1 < b.1 ∨ (a.1 = b.1 ∧ a.2 < b.2)

def neg (a : Pt) : Pt := (-a.1, -a.2)

theorem lx_irr (a : Pt) : ¬ lx a a := by unfold lx; omega
theorem lx_trans {a b c : Pt} (h : lx a b) (g : lx b c) : lx a c := by unfold lx at *; omega
theorem lx_not {a b : Pt} (h : lx a b) : ¬ lx b a := by unfold lx at *; omega
theorem lx_cases (a b : Pt) : lx a b ∨ a = b ∨ lx b a := by
  obtain ⟨a1, a2⟩ := a
  obtain ⟨b1, b2⟩ := b
  unfold lx
  simp only [Prod.mk.injEq]
  omega
theorem lx_neg {a b : Pt} : lx (neg a) (neg b) ↔ lx b a := by unfold lx neg; simp only; omega
theorem cr_neg (a b c : Pt) : cr (neg a) (neg b) (neg c) = cr a b c := by unfold cr neg; grind
theorem cr_self (a b : Pt) : cr a b a = 0 := by unfold cr; grind
theorem cr_self2 (a b : Pt) : cr a b b = 0 := by unfold cr; grind
theorem cr_swap (a b c : Pt) : cr a c b = - cr a b c := by unfold cr; grind
theorem cr_round (a b c : Pt) : cr b c a = cr a b c := by unfold cr; grind

/-- In the half-plane of the ways that go on: whether one way lies left of another is carried on. -/
theorem turn_le {u1 u2 v1 v2 w1 w2 : Int} (hu : 0 < u1 ∨ (u1 = 0 ∧ 0 < u2)) (hv : 0 < v1 ∨ (v1 = 0 ∧ 0 < v2)) (hw : 0 < w1 ∨ (w1 = 0 ∧ 0 < w2)) (h1 : 0 ≤ u1 * v2 - u2 * v1) (h2 : 0 ≤ v1 * w2 - v2 * w1) : 0 ≤ u1 * w2 - u2 * w1 := by
  have e : v1 * (u1 * w2 - u2 * w1) = u1 * (v1 * w2 - v2 * w1) + w1 * (u1 * v2 - u2 * v1) := by grind
  rcases hv with hv | ⟨hv, hv2⟩
  · have a := Int.mul_nonneg (a := u1) (by omega) h2
    have b := Int.mul_nonneg (a := w1) (by omega) h1
    rw [← Int.not_lt]
    intro h
    have := Int.mul_neg_of_pos_of_neg hv h
    omega
  · subst hv
    simp only [Int.mul_zero, Int.sub_zero, Int.zero_mul, Int.zero_sub] at h1 h2
    have hw1 : w1 = 0 := by
      rcases hw with hw | hw
      · have := Int.mul_pos hv2 hw
        omega
      · exact hw.1
    subst hw1
    simp only [Int.mul_zero, Int.sub_zero]
    exact Int.mul_nonneg (by omega) (by omega)

theorem turn_lt {u1 u2 v1 v2 w1 w2 : Int} (hu : 0 < u1 ∨ (u1 = 0 ∧ 0 < u2)) (hv : 0 < v1 ∨ (v1 = 0 ∧ 0 < v2)) (hw : 0 < w1 ∨ (w1 = 0 ∧ 0 < w2)) (h1 : 0 ≤ u1 * v2 - u2 * v1) (h2 : 0 < v1 * w2 - v2 * w1) : 0 < u1 * w2 - u2 * w1 := by
  have e : v1 * (u1 * w2 - u2 * w1) = u1 * (v1 * w2 - v2 * w1) + w1 * (u1 * v2 - u2 * v1) := by grind
  rcases hv with hv | ⟨hv, hv2⟩
  · have b := Int.mul_nonneg (a := w1) (by omega) h1
    rcases hu with hu | ⟨hu, hu2⟩
    · have a := Int.mul_pos hu h2
      rw [← Int.not_le]
      intro h
      have := Int.mul_nonneg (a := v1) (b := -(u1 * w2 - u2 * w1)) (by omega) (by omega)
      rw [Int.mul_neg] at this
      omega
    · subst hu
      have := Int.mul_pos hu2 hv
      simp only [Int.zero_mul, Int.zero_sub] at h1
      omega
  · subst hv
    simp only [Int.zero_mul, Int.zero_sub] at h2
    rcases hw with hw | hw
    · have := Int.mul_pos hv2 hw
      omega
    · rw [hw.1] at h2
      omega

/-- r right of a to b, q left of it: q left of a to r. -/
theorem cr_fan {a b r q : Pt} (hb : lx a b) (hr : lx a r) (hq : lx a q) (h1 : cr a b r ≤ 0) (h2 : 0 ≤ cr a b q) : 0 ≤ cr a r q := by
  have h1' : 0 ≤ cr a r b := by rw [cr_swap]; omega
  unfold cr at *
  unfold lx at *
  exact turn_le (by omega) (by omega) (by omega) h1' h2

/-- What lies ahead of a, and not right of the way there, lies left of the way on. -/
theorem cr_back {p a r q : Pt} (hq : lx q a) (hp : lx p a) (hr : lx a r) (h1 : 0 ≤ cr p a q) (h2 : 0 < cr p a r) : 0 < cr a r q := by
  have e1 : cr p a q = (a.1 - q.1) * (a.2 - p.2) - (a.2 - q.2) * (a.1 - p.1) := by unfold cr; grind
  have e2 : cr p a r = (a.1 - p.1) * (r.2 - a.2) - (a.2 - p.2) * (r.1 - a.1) := by unfold cr; grind
  have e3 : cr a r q = (a.1 - q.1) * (r.2 - a.2) - (a.2 - q.2) * (r.1 - a.1) := by unfold cr; grind
  rw [e1] at h1
  rw [e2] at h2
  rw [e3]
  unfold lx at *
  exact turn_lt (by omega) (by omega) (by omega) h1 h2

theorem cr_on {p a b r : Pt} (hp : lx p a) (hb : lx a b) (hr : lx a r) (h1 : 0 < cr p a b) (h2 : 0 < cr a b r) : 0 < cr p a r := by
  have e1 : cr p a b = (a.1 - p.1) * (b.2 - a.2) - (a.2 - p.2) * (b.1 - a.1) := by unfold cr; grind
  have e2 : cr a b r = (b.1 - a.1) * (r.2 - a.2) - (b.2 - a.2) * (r.1 - a.1) := by unfold cr; grind
  have e3 : cr p a r = (a.1 - p.1) * (r.2 - a.2) - (a.2 - p.2) * (r.1 - a.1) := by unfold cr; grind
  rw [e1] at h1
  rw [e2] at h2
  rw [e3]
  unfold lx at *
  exact turn_lt (by omega) (by omega) (by omega) (by omega) h2

/-- The chain's last links, backwards: without those at which the way to i would not turn left. -/
def popW (X : Nat → Pt) (i : Nat) : List Nat → List Nat
  | b :: a :: r => if cr (X a) (X b) (X i) ≤ 0 then popW X i (a :: r) else b :: a :: r
  | l => l

/-- The chain, backwards. -/
def chainR (X : Nat → Pt) : List Nat → List Nat → List Nat
  | s, [] => s
  | s, i :: l => chainR X (i :: popW X i s) l

/-- All of Q lies on the line from i to j, or left of it; what lies on it lies between. -/
def EdgeL (X : Nat → Pt) (Q : List Nat) (i j : Nat) : Prop := lx (X i) (X j) ∧ ∀ q ∈ Q, 0 ≤ cr (X i) (X j) (X q) ∧ (cr (X i) (X j) (X q) = 0 → ¬ lx (X q) (X i) ∧ ¬ lx (X j) (X q))

/-- Each link and the one behind it, of a chain that is told backwards. -/
def Lk (E : Nat → Nat → Prop) : List Nat → Prop
  | b :: a :: r => E a b ∧ Lk E (a :: r)
  | _ => True

structure Ch (X : Nat → Pt) (Q s : List Nat) : Prop where
  links : Lk (EdgeL X Q) s
  mem : ∀ c ∈ s, c ∈ Q
  bot : ∀ c, s.getLast? = some c → ∀ q ∈ Q, ¬ lx (X q) (X c)

theorem Lk.tail {E : Nat → Nat → Prop} {b : Nat} {s : List Nat} (h : Lk E (b :: s)) : Lk E s := by
  cases s with
  | nil => trivial
  | cons a r => exact h.2

theorem Ch.tail {X : Nat → Pt} {Q : List Nat} {b a : Nat} {s : List Nat} (h : Ch X Q (b :: a :: s)) : Ch X Q (a :: s) :=
  ⟨h.links.tail, fun c hc => h.mem c (List.mem_cons_of_mem _ hc), fun c hc => h.bot c (by rw [List.getLast?_cons_cons]; exact hc)⟩

theorem pop_good {X : Nat → Pt} {Q : List Nat} {r : Nat} (hr : ∀ q ∈ Q, lx (X q) (X r)) : ∀ (b : Nat) (s : List Nat), Ch X Q (b :: s) → (∀ q ∈ Q, ¬ lx (X q) (X b) → 0 ≤ cr (X b) (X r) (X q)) →
    ∃ c t, popW X r (b :: s) = c :: t ∧ Ch X Q (c :: t) ∧ (∀ q ∈ Q, ¬ lx (X q) (X c) → 0 ≤ cr (X c) (X r) (X q)) ∧ (∀ a t', t = a :: t' → 0 < cr (X a) (X c) (X r)) ∧ (c :: t).getLast? = (b :: s).getLast? := by
  intro b s
  induction s generalizing b with
  | nil => exact fun h H => ⟨b, [], rfl, h, H, fun _ _ e => by simp at e, rfl⟩
  | cons a s ih =>
    intro h H
    by_cases hp : cr (X a) (X b) (X r) ≤ 0
    · have hE := h.links.1
      have ha := h.mem a (by simp)
      obtain ⟨c, t, e, h1, h2, h3, h4⟩ := ih a h.tail (by
        intro q hq hn
        rcases lx_cases (X q) (X a) with g | g | g
        · exact absurd g hn
        · rw [g, cr_self]; exact Int.le_refl _
        · exact cr_fan hE.1 (hr a ha) g hp (hE.2 q hq).1)
      refine ⟨c, t, ?_, h1, h2, h3, ?_⟩
      · rw [popW, if_pos hp]; exact e
      · rw [List.getLast?_cons_cons]; exact h4
    · refine ⟨b, a :: s, ?_, h, H, ?_, rfl⟩
      · rw [popW, if_neg hp]
      · intro a' t' e
        simp only [List.cons.injEq] at e
        rw [← e.1]
        omega

theorem links_on {X : Nat → Pt} {Q : List Nat} {r : Nat} (hr : ∀ q ∈ Q, lx (X q) (X r)) : ∀ (c : Nat) (t : List Nat), Ch X Q (c :: t) → (∀ a t', t = a :: t' → 0 < cr (X a) (X c) (X r)) → Lk (EdgeL X (r :: Q)) (c :: t) := by
  intro c t
  induction t generalizing c with
  | nil => exact fun _ _ => trivial
  | cons a t ih =>
    intro h H
    have hp := H a t rfl
    have hE := h.links.1
    refine ⟨⟨hE.1, ?_⟩, ih a h.tail ?_⟩
    · intro q hq
      rcases List.mem_cons.1 hq with e | e
      · subst e
        exact ⟨by omega, by omega⟩
      · exact hE.2 q e
    · intro p t' e
      subst e
      have hE2 := h.links.2.1
      have hb := hE2.2 c (h.mem c (by simp))
      have h0 : 0 < cr (X p) (X a) (X c) := by
        rcases Int.lt_or_eq_of_le hb.1 with g | g
        · exact g
        · exact absurd hE.1 (hb.2 g.symm).2
      exact cr_on hE2.1 hE.1 (hr a (h.mem a (by simp))) h0 hp

theorem push_good {X : Nat → Pt} {Q : List Nat} {r b : Nat} {s : List Nat} (hr : ∀ q ∈ Q, lx (X q) (X r)) (h : Ch X Q (b :: s)) (hb : ∀ q ∈ Q, ¬ lx (X b) (X q)) :
    Ch X (r :: Q) (r :: popW X r (b :: s)) ∧ (r :: popW X r (b :: s)).getLast? = (b :: s).getLast? := by
  obtain ⟨c, t, e, h1, h2, h3, h4⟩ := pop_good hr b s h (by
    intro q hq hn
    rcases lx_cases (X q) (X b) with g | g | g
    · exact absurd g hn
    · rw [g, cr_self]; exact Int.le_refl _
    · exact absurd g (hb q hq))
  rw [e]
  have hc := h1.mem c (by simp)
  refine ⟨⟨⟨⟨hr c hc, ?_⟩, links_on hr c t h1 h3⟩, ?_, ?_⟩, ?_⟩
  · intro q hq
    rcases List.mem_cons.1 hq with e | hqm
    · subst e
      rw [cr_self2]
      exact ⟨Int.le_refl _, fun _ => ⟨lx_not (hr c hc), lx_irr _⟩⟩
    · by_cases hn : lx (X q) (X c)
      · have h0 : 0 < cr (X c) (X r) (X q) := by
          cases t with
          | nil => exact absurd hn (h1.bot c rfl q hqm)
          | cons a t' => exact cr_back hn h1.links.1.1 (hr c hc) (h1.links.1.2 q hqm).1 (h3 a t' rfl)
        exact ⟨by omega, by omega⟩
      · exact ⟨h2 q hqm hn, fun _ => ⟨hn, lx_not (hr q hqm)⟩⟩
  · intro x hx
    rcases List.mem_cons.1 hx with e | e
    · subst e; simp
    · exact List.mem_cons_of_mem _ (h1.mem x e)
  · intro x hx q hq
    rw [List.getLast?_cons_cons] at hx
    rcases List.mem_cons.1 hq with e | e
    · subst e
      have := h1.mem x (List.mem_of_getLast? hx)
      exact lx_not (hr x this)
    · exact h1.bot x hx q e
  · rw [List.getLast?_cons_cons]; exact h4

theorem chain_good {X : Nat → Pt} : ∀ (l Q : List Nat) (b : Nat) (s : List Nat), Ch X Q (b :: s) → (∀ q ∈ Q, ¬ lx (X b) (X q)) → (∀ q ∈ Q, ∀ i ∈ l, lx (X q) (X i)) → l.Pairwise (fun i j => lx (X i) (X j)) →
    Ch X (l.reverse ++ Q) (chainR X (b :: s) l) ∧ (chainR X (b :: s) l).getLast? = (b :: s).getLast? ∧ (chainR X (b :: s) l).head? = (l.reverse ++ [b]).head? := by
  intro l
  induction l with
  | nil => exact fun Q b s h _ _ _ => ⟨h, rfl, rfl⟩
  | cons i l ih =>
    intro Q b s h hb hl hp
    rw [List.pairwise_cons] at hp
    have hr : ∀ q ∈ Q, lx (X q) (X i) := fun q hq => hl q hq i (by simp)
    obtain ⟨h1, h2⟩ := push_good hr h hb
    obtain ⟨k1, k2, k3⟩ := ih (i :: Q) i _ h1 (by
      intro q hq
      rcases List.mem_cons.1 hq with e | e
      · subst e; exact lx_irr _
      · exact lx_not (hr q e)) (by
      intro q hq j hj
      rcases List.mem_cons.1 hq with e | e
      · subst e; exact hp.1 j hj
      · exact hl q e j (List.mem_cons_of_mem _ hj)) hp.2
    refine ⟨?_, ?_, ?_⟩
    · rw [List.reverse_cons, List.append_assoc]
      exact k1
    · rw [← h2]
      exact k2
    · rw [chainR, k3, List.reverse_cons, List.append_assoc]
      cases l.reverse <;> rfl

/-- The chain of a list that goes on: from its first to its last. -/
theorem chain_all {X : Nat → Pt} (i : Nat) (l : List Nat) (hp : (i :: l).Pairwise fun i j => lx (X i) (X j)) :
    Ch X (l.reverse ++ [i]) (chainR X [] (i :: l)) ∧ (chainR X [] (i :: l)).getLast? = some i ∧ (chainR X [] (i :: l)).head? = (l.reverse ++ [i]).head? := by
  rw [List.pairwise_cons] at hp
  exact chain_good l [i] i [] ⟨trivial, fun c hc => hc, fun c hc q hq => by
    simp only [List.getLast?_singleton, Option.some.injEq] at hc
    simp only [List.mem_singleton] at hq
    subst hc hq
    exact lx_irr _⟩ (fun q hq => by simp only [List.mem_singleton] at hq; subst hq; exact lx_irr _) (fun q hq j hj => by simp only [List.mem_singleton] at hq; subst hq; exact hp.1 j hj) hp.2


def Btw (a b q : Pt) : Prop := (¬ lx q a ∧ ¬ lx b q) ∨ (¬ lx q b ∧ ¬ lx a q)

/-- All of Q lies on the line from i to j, or left of it; what lies on it lies between. -/
def Edge (X : Nat → Pt) (Q : List Nat) (i j : Nat) : Prop := X i ≠ X j ∧ ∀ q ∈ Q, 0 ≤ cr (X i) (X j) (X q) ∧ (cr (X i) (X j) (X q) = 0 → Btw (X i) (X j) (X q))

theorem EdgeL.edge {X : Nat → Pt} {Q : List Nat} {i j : Nat} (h : EdgeL X Q i j) : Edge X Q i j :=
  ⟨fun e => lx_irr (X i) (by have := h.1; rwa [← e] at this), fun q hq => ⟨(h.2 q hq).1, fun e => Or.inl ((h.2 q hq).2 e)⟩⟩

theorem EdgeL.edge_neg {X : Nat → Pt} {Q : List Nat} {i j : Nat} (h : EdgeL (fun k => neg (X k)) Q i j) : Edge X Q i j := by
  have h1 := h.1
  rw [lx_neg] at h1
  refine ⟨fun e => lx_irr (X i) (by rwa [← e] at h1), fun q hq => ?_⟩
  have h2 := h.2 q hq
  simp only [cr_neg, lx_neg] at h2
  exact ⟨h2.1, fun e => Or.inr ⟨(h2.2 e).2, (h2.2 e).1⟩⟩

theorem Lk.imp {E F : Nat → Nat → Prop} (h : ∀ a b, E a b → F a b) : ∀ {s : List Nat}, Lk E s → Lk F s
  | [], _ => trivial
  | [_], _ => trivial
  | b :: a :: r, g => ⟨h a b g.1, Lk.imp h (s := a :: r) g.2⟩

theorem Lk.append {E : Nat → Nat → Prop} {t : List Nat} {b : Nat} : ∀ {s : List Nat}, Lk E s → s.getLast? = some b → Lk E (b :: t) → Lk E (s ++ t)
  | [], _, h, _ => by simp at h
  | [c], _, h, g => by
    simp only [List.getLast?_singleton, Option.some.injEq] at h
    subst h
    exact g
  | c :: a :: r, h, e, g => ⟨h.1, Lk.append (s := a :: r) h.2 (by rw [List.getLast?_cons_cons] at e; exact e) g⟩

/-- Each link and the one behind it. -/
def Fk (E : Nat → Nat → Prop) : List Nat → Prop
  | a :: b :: r => E a b ∧ Fk E (b :: r)
  | _ => True

theorem Fk.snoc {E : Nat → Nat → Prop} {a b : Nat} : ∀ {l : List Nat}, Fk E l → l.getLast? = some a → E a b → Fk E (l ++ [b])
  | [], _, h, _ => by simp at h
  | [c], _, h, g => by
    simp only [List.getLast?_singleton, Option.some.injEq] at h
    subst h
    exact ⟨g, trivial⟩
  | c :: d :: r, h, e, g => ⟨h.1, Fk.snoc (l := d :: r) h.2 (by rw [List.getLast?_cons_cons] at e; exact e) g⟩

theorem Lk.fk {E : Nat → Nat → Prop} : ∀ {s : List Nat}, Lk E s → Fk E s.reverse
  | [], _ => trivial
  | [_], _ => trivial
  | b :: a :: r, h => by
    rw [List.reverse_cons]
    exact Fk.snoc (a := a) (Lk.fk (s := a :: r) h.2) (by rw [List.getLast?_reverse]; rfl) h.1

theorem Fk.get {E : Nat → Nat → Prop} : ∀ {l : List Nat}, Fk E l → ∀ k, k + 1 < l.length → E (l.getD k 0) (l.getD (k + 1) 0)
  | [], _, _, h => by simp at h
  | [_], _, _, h => by simp at h
  | a :: b :: r, g, 0, _ => g.1
  | a :: b :: r, g, k + 1, h => by
    have := Fk.get (l := b :: r) g.2 k (by simp at h ⊢; omega)
    simpa using this

theorem pop_neg (X : Nat → Pt) (i : Nat) : ∀ s : List Nat, popW (fun k => neg (X k)) i s = popW X i s
  | [] => rfl
  | [_] => rfl
  | b :: a :: r => by rw [popW, popW, cr_neg, pop_neg X i (a :: r)]

theorem chain_neg (X : Nat → Pt) : ∀ (l s : List Nat), chainR (fun k => neg (X k)) s l = chainR X s l
  | [], _ => rfl
  | i :: l, s => by rw [chainR, chainR, pop_neg, chain_neg X l]

/-- The corners, told backwards, the first one behind the last. -/
def ringR (X : Nat → Pt) (o : List Nat) : List Nat := chainR X [] o.reverse ++ (chainR X [] o).tail

/-- The corners. -/
def hullL (X : Nat → Pt) (o : List Nat) : List Nat := if o.length < 2 then o else (chainR X [] o).reverse.dropLast ++ (chainR X [] o.reverse).reverse.dropLast

theorem dropLast_rev (l : List Nat) : l.reverse.dropLast = l.tail.reverse := by
  cases l with
  | nil => rfl
  | cons a r => rw [List.reverse_cons, List.dropLast_concat]; rfl

theorem chain_two {X : Nat → Pt} (o : List Nat) (hl : 2 ≤ o.length) (hp : o.Pairwise fun i j => lx (X i) (X j)) :
    ∃ a b t, chainR X [] o = b :: t ∧ o.head? = some a ∧ o.getLast? = some b ∧ (b :: t).getLast? = some a ∧ t ≠ [] ∧ Lk (EdgeL X o) (b :: t) ∧ ∀ c ∈ b :: t, c ∈ o := by
  cases o with
  | nil => simp at hl
  | cons i l =>
    obtain ⟨h1, h2, h3⟩ := chain_all i l hp
    rw [show l.reverse ++ [i] = (i :: l).reverse from (List.reverse_cons ..).symm] at h1 h3
    rw [List.head?_reverse] at h3
    cases hc : chainR X [] (i :: l) with
    | nil => rw [hc] at h2; simp at h2
    | cons b t =>
      rw [hc] at h1 h2 h3
      refine ⟨i, b, t, rfl, rfl, h3.symm, h2, ?_, ?_, ?_⟩
      · intro e
        subst e
        simp only [List.getLast?_singleton, Option.some.injEq] at h2
        subst h2
        have h4 : (b :: l).getLast? = some b := h3.symm
        cases l with
        | nil => simp at hl
        | cons j l' =>
          rw [List.getLast?_cons_cons] at h4
          rw [List.pairwise_cons] at hp
          exact lx_irr _ (hp.1 b (List.mem_of_getLast? h4))
      · exact h1.links.imp fun a b h => ⟨h.1, fun q hq => h.2 q (List.mem_reverse.2 hq)⟩
      · exact fun c hc => List.mem_reverse.1 (h1.mem c hc)

theorem Lk.next {E : Nat → Nat → Prop} : ∀ {b : Nat} {s : List Nat}, Lk E (b :: s) → ∀ c ∈ s, ∃ d ∈ b :: s, E c d
  | _, [], _, _, h => by simp at h
  | b, a :: r, g, c, h => by
    rcases List.mem_cons.1 h with e | e
    · subst e; exact ⟨b, by simp, g.1⟩
    · obtain ⟨d, hd, h1⟩ := Lk.next g.2 c e
      exact ⟨d, List.mem_cons_of_mem _ hd, h1⟩

theorem Lk.before {X : Nat → Pt} {E : Nat → Nat → Prop} (hE : ∀ a b, E a b → lx (X a) (X b)) : ∀ {b : Nat} {s : List Nat}, Lk E (b :: s) → ∀ c ∈ s, lx (X c) (X b)
  | _, [], _, _, h => by simp at h
  | b, a :: r, g, c, h => by
    rcases List.mem_cons.1 h with e | e
    · subst e; exact hE _ _ g.1
    · exact lx_trans (Lk.before hE g.2 c e) (hE _ _ g.1)

theorem Lk.pairwise {X : Nat → Pt} {E : Nat → Nat → Prop} (hE : ∀ a b, E a b → lx (X a) (X b)) : ∀ {s : List Nat}, Lk E s → s.Pairwise fun i j => lx (X j) (X i)
  | [], _ => List.Pairwise.nil
  | _ :: _, h => List.Pairwise.cons (fun c hc => Lk.before hE h c hc) (Lk.pairwise hE h.tail)

/-- A corner of the chain between its ends lies right of the line from the first to the last. -/
theorem below_line {X : Nat → Pt} {Q : List Nat} {a b c d : Nat} (h : EdgeL X Q c d) (ha : a ∈ Q) (hb : b ∈ Q) (hac : lx (X a) (X c)) (hcb : lx (X c) (X b)) (hmax : ¬ lx (X b) (X d)) : 0 < cr (X a) (X c) (X b) := by
  have h1 := h.2 a ha
  have h2 := h.2 b hb
  have h3 : 0 < cr (X a) (X c) (X d) := by
    rw [← cr_round]
    rcases Int.lt_or_eq_of_le h1.1 with g | g
    · exact g
    · exact absurd hac (h1.2 g.symm).1
  rcases Int.lt_or_eq_of_le h2.1 with g | g
  · exact cr_on hac h.1 hcb h3 g
  · rcases lx_cases (X b) (X d) with k | k | k
    · exact absurd k hmax
    · rw [k]; exact h3
    · exact absurd k (h2.2 g.symm).2

structure Ring (X : Nat → Pt) (o h : List Nat) : Prop where
  links : Fk (Edge X o) (h ++ h.head?.toList)
  first : h.head? = o.head?
  mem : ∀ c ∈ h, c ∈ o
  apart : h.Pairwise fun i j => X i ≠ X j
  two : 2 ≤ h.length

theorem hull_ring {X : Nat → Pt} {o : List Nat} (hl : 2 ≤ o.length) (hp : o.Pairwise fun i j => lx (X i) (X j)) : Ring X o (hullL X o) := by
  obtain ⟨a, b, t, e1, ha, hb, hlast, ht, hL, hm⟩ := chain_two o hl hp
  have hpn : o.reverse.Pairwise fun i j => lx (neg (X i)) (neg (X j)) := by
    rw [List.pairwise_reverse]
    exact hp.imp fun h => lx_neg.2 h
  obtain ⟨b', a', u, e2, hb', ha', hlast', hu, hL', hm'⟩ := chain_two (X := fun k => neg (X k)) o.reverse (by simpa using hl) hpn
  rw [chain_neg] at e2
  rw [List.head?_reverse, hb] at hb'
  rw [List.getLast?_reverse, ha] at ha'
  simp only [Option.some.injEq] at ha' hb'
  subst ha' hb'
  have hL2 : Lk (EdgeL (fun k => neg (X k)) o) (a :: u) := hL'.imp fun i j h => ⟨h.1, fun q hq => h.2 q (List.mem_reverse.2 hq)⟩
  have eh : hullL X o = t.reverse ++ u.reverse := by
    unfold hullL
    rw [if_neg (by omega), e1, e2, dropLast_rev, dropLast_rev]
    rfl
  have hat : t.getLast? = some a := by
    cases t with
    | nil => exact absurd rfl ht
    | cons c t' => rw [List.getLast?_cons_cons] at hlast; exact hlast
  have hbu : u.getLast? = some b := by
    cases u with
    | nil => exact absurd rfl hu
    | cons c t' => rw [List.getLast?_cons_cons] at hlast'; exact hlast'
  have hao : a ∈ o := List.mem_of_mem_head? ha
  have hbo : b ∈ o := List.mem_of_getLast? hb
  have hhead : (t.reverse ++ u.reverse).head? = some a := by
    rw [List.head?_append, List.head?_reverse, hat]
    rfl
  have hmin : ∀ c ∈ u, lx (X a) (X c) := fun c hc => lx_neg.1 (Lk.before (X := fun k => neg (X k)) (fun _ _ h => h.1) hL2 c hc)
  have hmax : ∀ c ∈ t, lx (X c) (X b) := fun c hc => Lk.before (X := X) (fun _ _ h => h.1) hL c hc
  refine ⟨?_, ?_, ?_, ?_, ?_⟩
  · rw [eh, hhead]
    have : t.reverse ++ u.reverse ++ [a] = (a :: u ++ t).reverse := by simp
    simp only [Option.toList_some]
    rw [this]
    refine Lk.fk (Lk.append (b := b) (hL2.imp fun _ _ h => h.edge_neg) ?_ (hL.imp fun _ _ h => h.edge))
    exact hlast'
  · rw [eh, hhead, ha]
  · intro c hc
    rw [eh, List.mem_append, List.mem_reverse, List.mem_reverse] at hc
    rcases hc with hc | hc
    · exact hm c (List.mem_cons_of_mem _ hc)
    · exact List.mem_reverse.1 (hm' c (List.mem_cons_of_mem _ hc))
  · rw [eh, List.pairwise_append, List.pairwise_reverse, List.pairwise_reverse]
    refine ⟨?_, ?_, ?_⟩
    · refine (Lk.pairwise (X := X) (fun _ _ h => h.1) hL.tail).imp fun h e => ?_
      rw [e] at h
      exact lx_irr _ h
    · refine (Lk.pairwise (X := fun k => neg (X k)) (fun _ _ h => h.1) hL2.tail).imp fun h e => ?_
      rw [e] at h
      exact lx_irr _ h
    · intro i hi j hj e
      rw [List.mem_reverse] at hi hj
      have h1 := hmax i hi
      have h2 := hmin j hj
      obtain ⟨d, hdm, hd⟩ := Lk.next hL i hi
      obtain ⟨d', hdm', hd'⟩ := Lk.next hL2 j hj
      have hdo : ¬ lx (X b) (X d) := by
        rcases List.mem_cons.1 hdm with k | k
        · rw [k]; exact lx_irr _
        · exact lx_not (hmax d k)
      have hdo' : ¬ lx (X d') (X a) := by
        rcases List.mem_cons.1 hdm' with k | k
        · rw [k]; exact lx_irr _
        · exact lx_not (hmin d' k)
      have k1 := below_line hd hao hbo (by rw [e]; exact h2) h1 hdo
      have k2 := below_line hd' hbo hao (lx_neg.2 (by rw [← e]; exact h1)) (lx_neg.2 h2) (by rw [lx_neg]; exact hdo')
      rw [cr_neg, ← e, ← cr_round, ← cr_round] at k2
      rw [cr_swap] at k1
      omega
  · rw [eh]
    have h1 : 0 < t.length := List.length_pos_iff.2 ht
    have h2 : 0 < u.length := List.length_pos_iff.2 hu
    simp
    omega

/-- The square of how far it is from one point to another. -/
def d2 (a b : Pt) : Int := (b.1 - a.1) * (b.1 - a.1) + (b.2 - a.2) * (b.2 - a.2)

theorem sq_nonneg (x : Int) : 0 ≤ x * x := by
  rcases Int.le_total 0 x with h | h
  · exact Int.mul_nonneg h h
  · exact Int.mul_nonneg_of_nonpos_of_nonpos h h
theorem sq_le {x y : Int} (h0 : 0 ≤ x) (h : x ≤ y) : x * x ≤ y * y := Int.mul_le_mul h h h0 (by omega)
theorem sq_lt {x y : Int} (h0 : 0 ≤ x) (h : x < y) : x * x < y * y := by
  have h1 : x * x ≤ x * y := Int.mul_le_mul_of_nonneg_left (by omega) h0
  have h2 := Int.mul_lt_mul_of_pos_right h (by omega : 0 < y)
  omega

theorem near1 {u1 u2 v1 v2 : Int} (h0 : 0 ≤ u1) (h1 : u1 ≤ v1) (hv : 0 < v1) (e : v1 * u2 = v2 * u1) : u1 * u1 + u2 * u2 ≤ v1 * v1 + v2 * v2 ∧ (u1 ≠ v1 ∨ u2 ≠ v2 → u1 * u1 + u2 * u2 < v1 * v1 + v2 * v2) := by
  have hs := sq_le h0 h1
  have h2 : u2 * u2 ≤ v2 * v2 := by
    have e2 : (v1 * v1) * (u2 * u2) = (v2 * v2) * (u1 * u1) := by grind
    have h3 := Int.mul_le_mul_of_nonneg_left hs (sq_nonneg v2)
    have h4 : (v1 * v1) * (u2 * u2) ≤ (v1 * v1) * (v2 * v2) := by rw [e2, Int.mul_comm (v1 * v1)]; exact h3
    exact Int.le_of_mul_le_mul_left h4 (Int.mul_pos hv hv)
  refine ⟨by omega, fun hne => ?_⟩
  by_cases hu : u1 = v1
  · subst hu
    have h5 : u2 = v2 := by
      have h6 : u1 * u2 = u1 * v2 := by rw [e, Int.mul_comm]
      exact Int.eq_of_mul_eq_mul_left (by omega) h6
    omega
  · have := sq_lt h0 (show u1 < v1 by omega)
    omega

theorem near2 {a b q : Pt} (hab : a ≠ b) (hc : cr a b q = 0) (hb : ¬ lx q a ∧ ¬ lx b q) : d2 a q ≤ d2 a b ∧ (q ≠ b → d2 a q < d2 a b) := by
  obtain ⟨a1, a2⟩ := a
  obtain ⟨b1, b2⟩ := b
  obtain ⟨q1, q2⟩ := q
  unfold cr at hc
  unfold d2
  unfold lx at hb
  simp only [ne_eq, Prod.mk.injEq] at *
  by_cases hv : a1 < b1
  · have := near1 (u1 := q1 - a1) (u2 := q2 - a2) (v1 := b1 - a1) (v2 := b2 - a2) (by omega) (by omega) (by omega) (by omega)
    exact ⟨this.1, fun h => this.2 (by omega)⟩
  · have h1 : q1 = a1 := by omega
    have h2 : b1 = a1 := by omega
    subst h1 h2
    have h3 := sq_le (x := q2 - a2) (y := b2 - a2) (by omega) (by omega)
    refine ⟨by omega, fun h => ?_⟩
    have h4 := sq_lt (x := q2 - a2) (y := b2 - a2) (by omega) (by omega)
    omega

theorem d2_neg (a b : Pt) : d2 (neg a) (neg b) = d2 a b := by unfold d2 neg; grind
theorem neg_ne {a b : Pt} : neg a ≠ neg b ↔ a ≠ b := by
  obtain ⟨a1, a2⟩ := a
  obtain ⟨b1, b2⟩ := b
  unfold neg
  simp only [ne_eq, Prod.mk.injEq]
  omega

/-- What lies between two points lies nearer to the first than the second does. -/
theorem near {a b q : Pt} (hab : a ≠ b) (hc : cr a b q = 0) (hb : Btw a b q) : d2 a q ≤ d2 a b ∧ (q ≠ b → d2 a q < d2 a b) := by
  rcases hb with h | h
  · exact near2 hab hc h
  · have := near2 (a := neg a) (b := neg b) (q := neg q) (neg_ne.2 hab) (by rw [cr_neg]; exact hc) ⟨by rw [lx_neg]; exact h.2, by rw [lx_neg]; exact h.1⟩
    rw [d2_neg, d2_neg] at this
    exact ⟨this.1, fun hn => this.2 (neg_ne.2 hn)⟩

/-- How the reference chooses: is q a better one than b to follow a? -/
def better (a b q : Pt) : Prop := cr a b q < 0 ∨ (cr a b q = 0 ∧ d2 a b < d2 a q)

theorem best_not {X : Nat → Pt} {Q : List Nat} {i j q : Nat} (h : Edge X Q i j) (hq : q ∈ Q) : ¬ better (X i) (X j) (X q) := by
  have h1 := h.2 q hq
  unfold better
  intro hb
  rcases hb with hb | ⟨hb, hd⟩
  · omega
  · have := (near h.1 hb (h1.2 hb)).1
    omega

theorem best_is {X : Nat → Pt} {Q : List Nat} {i j q : Nat} (h : Edge X Q i j) (hq : q ∈ Q) (hne : X q ≠ X j) : better (X i) (X q) (X j) := by
  have h1 := h.2 q hq
  unfold better
  rw [cr_swap]
  rcases Int.lt_or_eq_of_le h1.1 with g | g
  · exact Or.inl (by omega)
  · exact Or.inr ⟨by omega, (near h.1 g.symm (h1.2 g.symm)).2 hne⟩
end Go.Proofs.YtbjjkfmdkmbcfaaGreat.HL

namespace Go.Proofs.YtbjjkfmdkmbcfaaGreat
open Go.RowKit
open PlLv

attribute [local go_sem ↓] Go.wp_at_zero Go.wp_at_succ

/-- A point of the reference: its two numbers. -/
structure PbX (w : World) (q : PB) (x : Int × Int) : Prop where
  bx : Bg w q.nx q.vx q.lx x.1
  bY : Bg w q.ny q.vy q.ly x.2
  sx : x.1.natAbs < 2 ^ 200
  sy : x.2.natAbs < 2 ^ 200

theorem PbX.kept {w w' : World} {q : PB} {x : Int × Int} (h : PbX w q x) (hb : Below w.heap.size w w') : PbX w' q x := ⟨h.bx.kept hb, h.bY.kept hb, h.sx, h.sy⟩

theorem PbX.form {w : World} {q : PB} {x : Int × Int} (h : PbX w q x) : ∃ (nx : Bool) (ox : Option Addr) (cx : Nat) (lx : List Nat) (ny : Bool) (oy : Option Addr) (cy : Nat) (ly : List Nat), q = ⟨nx, .slice ox lx.length cx, lx, ny, .slice oy ly.length cy, ly⟩ := by
  obtain ⟨nx, vx, lx, ny, vy, ly⟩ := q
  obtain ⟨ox, cx, h1⟩ := bg_form h.bx
  obtain ⟨oy, cy, h2⟩ := bg_form h.bY
  simp only at h1 h2
  subst h1 h2
  exact ⟨nx, ox, cx, lx, ny, oy, cy, ly, rfl⟩

theorem PtAt.px {w : World} {g i : Nat} {q : PB} {x : Int × Int} (h : PtAt w g i q x) : PbX w q x := ⟨h.2.1, h.2.2.1, h.2.2.2.1, h.2.2.2.2⟩

/-- A reference point as an argument. -/
def pv (q : PB) : Value := .agg #[.bool q.nx, q.vx, .bool q.ny, q.vy]

theorem rturn_px {w : World} {a b c : PB} {A B C : Int × Int} (ha : PbX w a A) (hb : PbX w b B) (hc : PbX w c C) :
    Calls Tryz.prog 21 #[pv a, pv b, pv c] w fun e w' => Below w.heap.size w w' ∧ e = .returned (.int .i64 (PlRd.sgn (HL.cr A B C))) := by
  obtain ⟨_, _, _, _, _, _, _, _, rfl⟩ := ha.form
  obtain ⟨_, _, _, _, _, _, _, _, rfl⟩ := hb.form
  obtain ⟨_, _, _, _, _, _, _, _, rfl⟩ := hc.form
  exact rturn_any _ _ _ _ _ _ _ _ _ _ _ _ _ _ _ _ _ _ _ _ _ _ _ _ _ _ _ _ _ _ w ha.bx ha.sx ha.bY ha.sy hb.bx hb.sx hb.bY hb.sy hc.bx hc.sx hc.bY hc.sy

theorem rsquare_px {w : World} {a b : PB} {A B : Int × Int} (ha : PbX w a A) (hb : PbX w b B) :
    Calls Tryz.prog 24 #[pv a, pv b] w fun e w' => ∃ nc vc lc, e = .returned (.agg #[.bool nc, vc]) ∧ Bg w' nc vc lc (HL.d2 A B) ∧ Below w.heap.size w w' := by
  obtain ⟨_, _, _, _, _, _, _, _, rfl⟩ := ha.form
  obtain ⟨_, _, _, _, _, _, _, _, rfl⟩ := hb.form
  exact rsquare_any _ _ _ _ _ _ _ _ _ _ _ _ _ _ _ _ _ _ _ _ w ha.bx ha.sx ha.bY ha.sy hb.bx hb.sx hb.bY hb.sy

theorem sgn_zero_iff {x : Int} : PlRd.sgn x = 0 ↔ x = 0 := by unfold PlRd.sgn; (repeat split) <;> omega

set_option maxHeartbeats 8000000 in
set_option maxRecDepth 100000 in
theorem same_walk (nax : Bool) (oax : Option Addr) (cax : Nat) (lax : List Nat) (Xax : Int) (nay : Bool) (oay : Option Addr) (cay : Nat) (lay : List Nat) (Xay : Int) (nbx : Bool) (obx : Option Addr) (cbx : Nat) (lbx : List Nat) (Xbx : Int) (nby : Bool) (oby : Option Addr) (cby : Nat) (lby : List Nat) (Xby : Int) (w : World) (hax : Bg w nax (.slice oax lax.length cax) lax Xax) (sax : Xax.natAbs < 2 ^ 200) (hay : Bg w nay (.slice oay lay.length cay) lay Xay) (say : Xay.natAbs < 2 ^ 200) (hbx : Bg w nbx (.slice obx lbx.length cbx) lbx Xbx) (sbx : Xbx.natAbs < 2 ^ 200) (hby : Bg w nby (.slice oby lby.length cby) lby Xby) (sby : Xby.natAbs < 2 ^ 200) :
    Calls Tryz.prog 51 #[.agg #[.bool nax, .slice oax lax.length cax, .bool nay, .slice oay lay.length cay], .agg #[.bool nbx, .slice obx lbx.length cbx, .bool nby, .slice oby lby.length cby]] w fun e w' => e = .returned (.bool (decide (Xax = Xbx ∧ Xay = Xby))) ∧ Below w.heap.size w w' := by
  obtain ⟨r, hr⟩ : ∃ r, r = decide (Xax = Xbx ∧ Xay = Xby) := ⟨_, rfl⟩
  rw [← hr]
  obtain ⟨s, hs⟩ : ∃ s, s = PlRd.sgn (Xax - Xbx) := ⟨_, rfl⟩
  obtain ⟨t, ht⟩ : ∃ t, t = PlRd.sgn (Xay - Xby) := ⟨_, rfl⟩
  have HR : Hid (r = (decide (s = 0) && decide (t = 0))) := by
    unfold Hid
    rw [hr, hs, ht, ← Bool.decide_and, decide_eq_decide, sgn_zero_iff, sgn_zero_iff]
    omega
  have HS : Hid (s = PlRd.sgn (Xax - Xbx)) := hs
  have HT : Hid (t = PlRd.sgn (Xay - Xby)) := ht
  clear hr hs ht
  go_enter Tryz.func51, Tryz.ntmps51
  go_upto_region 1 with fail
  generalize hW : World.alloc (World.alloc w _) _ = W
  have hWs : W.heap.size = w.heap.size + 2 := by subst hW; simp
  have hw : Below w.heap.size w W := by
    subst hW
    exact (((Below.refl _ w).alloc (Nat.le_refl _) _).alloc (by simp) _)
  have KS : ∀ w', Below W.heap.size W w' → (w'.cell? ⟨w.heap.size, 0, none⟩ = some (.bool nax) ∧ w'.cell? ⟨w.heap.size, 1, none⟩ = some (.slice oax lax.length cax) ∧ w'.cell? ⟨w.heap.size, 2, none⟩ = some (.bool nay) ∧ w'.cell? ⟨w.heap.size, 3, none⟩ = some (.slice oay lay.length cay) ∧ w'.cell? ⟨w.heap.size + 1, 0, none⟩ = some (.bool nbx) ∧ w'.cell? ⟨w.heap.size + 1, 1, none⟩ = some (.slice obx lbx.length cbx) ∧ w'.cell? ⟨w.heap.size + 1, 2, none⟩ = some (.bool nby) ∧ w'.cell? ⟨w.heap.size + 1, 3, none⟩ = some (.slice oby lby.length cby)) := by
    intro w' hb
    obtain ⟨hc, _⟩ := bcell hb
    refine ⟨?_, ?_, ?_, ?_, ?_, ?_, ?_, ?_⟩
    all_goals (rw [hc _ _ (by omega)]; subst hW; simp [go_sem])
  clear hW
  have hWs' : w.heap.size + 2 ≤ W.heap.size := by omega
  clear hWs
  obtain ⟨s0, s1, s2, s3, s4, s5, s6, s7⟩ := KS W (Below.refl _ _)
  go_upto_region 3 with (first | (go_at_call 23; have g2 := hb2; go_must (refine (less_bg nay nby _ _ lay lby Xay Xby _ (hay.kept (hw.trans (hW2.mono hw.size))) (hby.kept (hw.trans (hW2.mono hw.size))) (small200 say) (small200 sby)).mono ?_; rintro e w3 ⟨m3, v3, k3, rfl, hg3, hb3⟩; obtain ⟨a3, d3, hv3⟩ := bg_form hg3; subst hv3)) | (go_at_call 23; go_must (refine (less_bg nax nbx _ _ lax lbx Xax Xbx _ (hax.kept hw) (hbx.kept hw) (small200 sax) (small200 sbx)).mono ?_; rintro e w1 ⟨m1, v1, k1, rfl, hg1, hb1⟩; obtain ⟨a1, d1, hv1⟩ := bg_form hg1; subst hv1)) | (go_at_call 22; have g3 := hb3; go_must (refine (sign_bg m3 _ k3 _ _ hg3).mono ?_; rintro e w4 ⟨he4, hb4⟩; rw [← HT.out] at he4; subst he4; have hW4 : Below W.heap.size W w4 := below_step hb4 (below_step hb3 hW2))) | (go_at_call 22; go_must (refine (sign_bg m1 _ k1 _ _ hg1).mono ?_; rintro e w2 ⟨he2, hb2⟩; rw [← HS.out] at he2; subst he2; have hW2 : Below W.heap.size W w2 := below_step hb2 hb1; obtain ⟨t0, t1, t2, t3, t4, t5, t6, t7⟩ := KS w2 hW2)))
  by_cases z1 : s = 0
  · by_cases z2 : t = 0
    · subst z1 z2
      go_wp2_with fail
      go_ret
      exact ⟨ret_bool (by rw [HR.out]; rfl), hw.trans (hW4.mono hw.size)⟩
    · have z3 : (t == 0) = false := by simp [z2]
      subst z1
      go_wp2_with fail
      go_ret
      exact ⟨ret_bool (by rw [HR.out]; simp [z2]), hw.trans (hW4.mono hw.size)⟩
  · have z3 : (s == 0) = false := by simp [z1]
    go_wp2_with fail
    go_ret
    exact ⟨ret_bool (by rw [HR.out]; simp [z1]), hw.trans (hW4.mono hw.size)⟩

theorem same_px {w : World} {a b : PB} {A B : Int × Int} (ha : PbX w a A) (hb : PbX w b B) :
    Calls Tryz.prog 51 #[pv a, pv b] w fun e w' => e = .returned (.bool (decide (A = B))) ∧ Below w.heap.size w w' := by
  obtain ⟨_, _, _, _, _, _, _, _, rfl⟩ := ha.form
  obtain ⟨_, _, _, _, _, _, _, _, rfl⟩ := hb.form
  have e : decide (A = B) = decide (A.1 = B.1 ∧ A.2 = B.2) := decide_eq_decide.2 Prod.ext_iff
  rw [e]
  exact same_walk _ _ _ _ _ _ _ _ _ _ _ _ _ _ _ _ _ _ _ _ w ha.bx ha.sx ha.bY ha.sy hb.bx hb.sx hb.bY hb.sy

end Go.Proofs.YtbjjkfmdkmbcfaaGreat
