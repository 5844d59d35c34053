import Derived.Test.YtbjjkfmdkmbcfaaGreatLl
import Derived.Test.YtbjjkfmdkmbcfaaGreatLc
import Derived.ProofKit
import Derived.Lib.SmallJoins
import Derived.OpenShut
import Derived.ChangeOld
import Derived.Below
import Derived.Carry
import Derived.SizedLaws
import Derived.Deep.SlicePairs
namespace Go.Proofs.YtbjjkfmdkmbcfaaGreat
open Go.RowKit
open PlLv

attribute [local go_sem ↓] Go.wp_at_zero Go.wp_at_succ

theorem eql_nil (w : World) (a : Option Addr) (l c : Nat) : (binOp .eql 26 (.slice a l c) (.slice none 0 0)).run Tryz.prog w = .ok (.bool a.isNone) w := by
  have h := run_equal_slice_nil (P := Tryz.prog) (w := w) 26 24 a l c Tryz.underlying26
  simp [binOp, h]

attribute [local go_sem] eql_nil

theorem SrcAt.kept {w w' : World} {v : Value} {n : Nat} {ps : List (Nat × Nat)} (h : SrcAt w v n ps) (hb : Below w.heap.size w w') : SrcAt w' v n ps := by
  rcases h with h | h | ⟨g, off, c, rfl, hg, hp⟩
  · exact .inl h
  · exact .inr (.inl h)
  · refine .inr (.inr ⟨g, off, c, rfl, Nat.lt_of_lt_of_le hg hb.size, fun t ht => ?_⟩)
    obtain ⟨hc, _⟩ := bcell hb
    rw [hc _ _ hg, hc _ _ hg]
    exact hp t ht

theorem src_one {w : World} {x y : Nat} {b : Nat} {t : TypeId} (hb : b = w.heap.size) : SrcAt (w.alloc (.cells #[.int .u64 x, .int .u64 y] t)) (.slice (some ⟨b, 0, none⟩) 1 1) 1 [(x, y)] := by
  subst hb
  refine .inr (.inr ⟨_, 0, _, rfl, by simp, fun t ht => ?_⟩)
  match t, ht with
  | 0, _ => exact ⟨by simp [go_sem], by simp [go_sem]⟩

theorem sl_of_row {w : World} {H n c : Nat} {ps : List (Nat × Nat)} (h : w.heap[H]? = some (.cells (ptCells (ps ++ tail3)).toArray 24 (0, 0))) (hn : ps.length = n) : SlAt w (.slice (some ⟨H, 0, none⟩) n c) n ps := by
  refine .inr ⟨H, c, rfl, lt_of_row h, fun t ht => ?_⟩
  have hr := (row_of_full h t).cells (by simp [tail3]; omega)
  have e : (ps ++ tail3).getD t (0, 0) = ps.getD t (0, 0) := by
    rw [List.getD_eq_getElem?_getD, List.getD_eq_getElem?_getD, List.getElem?_append_left ht]
  rw [e] at hr
  rw [Nat.zero_add]
  exact hr.1

theorem poly_one {w : World} {v : Value} {x y : Nat} (h : PolyAt w v 1 [(x, y)]) : ∃ g c nx ox kx lx ny oy ky ly, v = .slice (some ⟨g, 0, none⟩) 1 c ∧ (w.cell? ⟨g, 0, none⟩ = some (.bool nx) ∧ w.cell? ⟨g, 1, none⟩ = some (.slice ox lx.length kx) ∧ w.cell? ⟨g, 2, none⟩ = some (.bool ny) ∧ w.cell? ⟨g, 3, none⟩ = some (.slice oy ly.length ky)) ∧ Bg w nx (.slice ox (lx : List Nat).length kx) lx (crd x) ∧ Bg w ny (.slice oy (ly : List Nat).length ky) ly (crd y) ∧ (crd x).natAbs < 2 ^ 200 ∧ (crd y).natAbs < 2 ^ 200 := by
  rcases h with ⟨_, h⟩ | ⟨g, c, rfl, hg, f, hf⟩
  · cases h
  · obtain ⟨hc, hx, hy, hs⟩ := hf 0 (by decide)
    generalize f 0 = q at *
    obtain ⟨nx, vx, lx, ny, vy, ly⟩ := q
    obtain ⟨ox, kx, hfx⟩ := bg_form hx
    obtain ⟨oy, ky, hfy⟩ := bg_form hy
    (try simp only at hfx hfy)
    subst hfx hfy
    exact ⟨g, c, nx, ox, kx, lx, ny, oy, ky, ly, rfl, hc, hx, hy, hs.1, hs.2⟩

set_option maxHeartbeats 8000000 in
set_option maxRecDepth 100000 in
theorem inlaw_many (ad : Addr) (sc : Nat) (n ax ay bx by' cx cy dx dy : Nat) (ps : List (Nat × Nat)) (w : World) (hv : SrcAt w (.slice (some ad) n sc) n ps) (hn : ps.length = n) (hm : 100 < n) (hnb : n ≤ 8796093021952) :
    Calls Tryz.prog 13 #[.agg #[.int .i64 5, .int .u64 ax, .int .u64 ay, .int .u64 bx, .int .u64 by', .int .u64 cx, .int .u64 cy, .int .u64 dx, .int .u64 dy, .slice (some ad) n sc]] w fun e w' => Below w.heap.size w w' ∧ e = .returned (.bool true) := by
  go_enter Tryz.func13, Tryz.ntmps13
  go_upto_region 1 with fail
  generalize hW : World.alloc w _ = W
  have hWs : W.heap.size = w.heap.size + 1 := by subst hW; simp
  have hw : Below w.heap.size w W := by subst hW; exact (Below.refl _ _).alloc (Nat.le_refl _) _
  have KS : ∀ w', Below W.heap.size W w' → (w'.cell? ⟨w.heap.size, 1, none⟩ = some (.int .u64 ax) ∧ w'.cell? ⟨w.heap.size, 2, none⟩ = some (.int .u64 ay) ∧ w'.cell? ⟨w.heap.size, 9, none⟩ = some (.slice (some ad) n sc)) := by
    intro w' hb
    obtain ⟨hc, _⟩ := bcell hb
    refine ⟨?_, ?_, ?_⟩
    all_goals (rw [hc _ _ (by omega)]; subst hW; simp [go_sem])
  have HSRC : Hid (∀ w', Below W.heap.size W w' → SrcAt w' (.slice (some ad) n sc) n ps) := fun w' hb => SrcAt.kept (w := w) (hv) (hw.trans (hb.mono hw.size))
  clear hW hWs hv
  have hS0 := KS W (Below.refl _ _)
  go_wp2_with (first | (go_at_call 27; go_must (refine (lent_any _ n ps _ (HSRC.out _ (Below.refl _ _)) hn (by omega)).mono ?_; rintro e w1 ⟨rfl, hrow1, hb1⟩; have hS1 := KS w1 hb1; have hH1 := lt_of_row hrow1; have HR1 : Hid (w1.heap[W.heap.size]? = some (.cells (ptCells (ps ++ tail3)).toArray 24 (0, 0))) := hrow1; clear hrow1)) | (go_at_call 28; go_must (refine (insideE_many _ n _ ax ay _ (by omega) (by omega)).mono ?_; rintro e w2 ⟨hb2, rfl⟩; have hW2 : Below W.heap.size W w2 := below_step hb2 hb1; have hS2 := KS w2 hW2; have HR2 : Hid (w2.heap[W.heap.size]? = some (.cells (ptCells (ps ++ tail3)).toArray 24 (0, 0))) := (hb2.block _ hH1).trans HR1.out)) | (go_at_call 29; go_must (refine (whole_any W.heap.size n _ ps _ HR2.out (HSRC.out _ hW2) hn (by omega)).mono ?_; rintro e w3 ⟨rfl, hb3⟩; have hW3 : Below W.heap.size W w3 := hW2.trans hb3; have hS3 := KS w3 hW3)) | (go_at_call 20; go_must (refine (num_any _ _).mono ?_; rintro e w9 ⟨rfl, rfl⟩)))
  go_ret
  exact ⟨hw.trans (Below.mono (B := W.heap.size) hW3 hw.size), rfl⟩

set_option maxHeartbeats 8000000 in
set_option maxRecDepth 100000 in
theorem inlaw_no1y (ad : Addr) (sc : Nat) (n ax ay bx by' cx cy dx dy : Nat) (ps : List (Nat × Nat)) (w : World) (hv : SrcAt w (.slice (some ad) n sc) n ps) (hn : ps.length = n) (hnm : n ≤ 100) (h64 : ∀ p ∈ ps, p.1 < 2 ^ 64 ∧ p.2 < 2 ^ 64) (hp64 : ∀ p ∈ [(ax, ay)], p.1 < 2 ^ 64 ∧ p.2 < 2 ^ 64) (hok : okPts ps = false) (hpk : okPts [(ax, ay)] = true) :
    Calls Tryz.prog 13 #[.agg #[.int .i64 5, .int .u64 ax, .int .u64 ay, .int .u64 bx, .int .u64 by', .int .u64 cx, .int .u64 cy, .int .u64 dx, .int .u64 dy, .slice (some ad) n sc]] w fun e w' => Below w.heap.size w w' ∧ e = .returned (.bool true) := by
  go_enter Tryz.func13, Tryz.ntmps13
  go_upto_region 1 with fail
  generalize hW : World.alloc w _ = W
  have hWs : W.heap.size = w.heap.size + 1 := by subst hW; simp
  have hw : Below w.heap.size w W := by subst hW; exact (Below.refl _ _).alloc (Nat.le_refl _) _
  have KS : ∀ w', Below W.heap.size W w' → (w'.cell? ⟨w.heap.size, 1, none⟩ = some (.int .u64 ax) ∧ w'.cell? ⟨w.heap.size, 2, none⟩ = some (.int .u64 ay) ∧ w'.cell? ⟨w.heap.size, 9, none⟩ = some (.slice (some ad) n sc)) := by
    intro w' hb
    obtain ⟨hc, _⟩ := bcell hb
    refine ⟨?_, ?_, ?_⟩
    all_goals (rw [hc _ _ (by omega)]; subst hW; simp [go_sem])
  have HSRC : Hid (∀ w', Below W.heap.size W w' → SrcAt w' (.slice (some ad) n sc) n ps) := fun w' hb => SrcAt.kept (w := w) (hv) (hw.trans (hb.mono hw.size))
  clear hW hWs hv
  have hS0 := KS W (Below.refl _ _)
  go_wp2_with (first | (go_at_call 27; go_must (refine (lent_any _ n ps _ (HSRC.out _ (Below.refl _ _)) hn (by omega)).mono ?_; rintro e w1 ⟨rfl, hrow1, hb1⟩; have hS1 := KS w1 hb1; have hH1 := lt_of_row hrow1; have HR1 : Hid (w1.heap[W.heap.size]? = some (.cells (ptCells (ps ++ tail3)).toArray 24 (0, 0))) := hrow1; clear hrow1)) | (go_at_call 28; go_must (refine (insideE_no1 _ n ps ax ay _ (sl_of_row HR1.out hn) hn (by omega) h64 hok).mono ?_; rintro e w2 ⟨hb2, rfl⟩; have hW2 : Below W.heap.size W w2 := below_step hb2 hb1; have hS2 := KS w2 hW2; have HR2 : Hid (w2.heap[W.heap.size]? = some (.cells (ptCells (ps ++ tail3)).toArray 24 (0, 0))) := (hb2.block _ hH1).trans HR1.out)) | (go_at_call 29; go_must (refine (whole_any W.heap.size n _ ps _ HR2.out (HSRC.out _ hW2) hn (by omega)).mono ?_; rintro e w3 ⟨rfl, hb3⟩; have hW3 : Below W.heap.size W w3 := hW2.trans hb3; have hS3 := KS w3 hW3)) | (go_at_call 20; go_must (refine (num_any _ _).mono ?_; rintro e w9 ⟨rfl, rfl⟩)) | (go_at_call 15; have g4 := hb4; go_must (refine (points_yes _ 1 [(ax, ay)] _ (src_one (by simp)) rfl (by omega) hp64 hpk).mono ?_; rintro e w5 ⟨hb5, v5, rfl, hP5⟩; obtain ⟨g5, c5, nx, ox, kx, lx, ny, oy, ky, ly, hf5, hc5, hx5, hy5, sx5, sy5⟩ := poly_one hP5; subst hf5; have hbb5 : Below w4.heap.size w4 w5 := below_alloc_of _ hb5; have hW5 : Below W.heap.size W w5 := below_step hbb5 hW4)) | (go_at_call 15; go_must (refine (points_no _ n ps _ (HSRC.out _ hW3) hn (by omega) h64 hok).mono ?_; rintro e w4 ⟨hb4, rfl⟩; have hW4 : Below W.heap.size W w4 := below_step hb4 hW3; have hS4 := KS w4 hW4)))
  go_ret
  exact ⟨hw.trans (Below.mono (B := W.heap.size) hW5 hw.size), rfl⟩

set_option maxHeartbeats 8000000 in
set_option maxRecDepth 100000 in
theorem inlaw_no1n (ad : Addr) (sc : Nat) (n ax ay bx by' cx cy dx dy : Nat) (ps : List (Nat × Nat)) (w : World) (hv : SrcAt w (.slice (some ad) n sc) n ps) (hn : ps.length = n) (hnm : n ≤ 100) (h64 : ∀ p ∈ ps, p.1 < 2 ^ 64 ∧ p.2 < 2 ^ 64) (hp64 : ∀ p ∈ [(ax, ay)], p.1 < 2 ^ 64 ∧ p.2 < 2 ^ 64) (hok : okPts ps = false) (hpk : okPts [(ax, ay)] = false) :
    Calls Tryz.prog 13 #[.agg #[.int .i64 5, .int .u64 ax, .int .u64 ay, .int .u64 bx, .int .u64 by', .int .u64 cx, .int .u64 cy, .int .u64 dx, .int .u64 dy, .slice (some ad) n sc]] w fun e w' => Below w.heap.size w w' ∧ e = .returned (.bool true) := by
  go_enter Tryz.func13, Tryz.ntmps13
  go_upto_region 1 with fail
  generalize hW : World.alloc w _ = W
  have hWs : W.heap.size = w.heap.size + 1 := by subst hW; simp
  have hw : Below w.heap.size w W := by subst hW; exact (Below.refl _ _).alloc (Nat.le_refl _) _
  have KS : ∀ w', Below W.heap.size W w' → (w'.cell? ⟨w.heap.size, 1, none⟩ = some (.int .u64 ax) ∧ w'.cell? ⟨w.heap.size, 2, none⟩ = some (.int .u64 ay) ∧ w'.cell? ⟨w.heap.size, 9, none⟩ = some (.slice (some ad) n sc)) := by
    intro w' hb
    obtain ⟨hc, _⟩ := bcell hb
    refine ⟨?_, ?_, ?_⟩
    all_goals (rw [hc _ _ (by omega)]; subst hW; simp [go_sem])
  have HSRC : Hid (∀ w', Below W.heap.size W w' → SrcAt w' (.slice (some ad) n sc) n ps) := fun w' hb => SrcAt.kept (w := w) (hv) (hw.trans (hb.mono hw.size))
  clear hW hWs hv
  have hS0 := KS W (Below.refl _ _)
  go_wp2_with (first | (go_at_call 27; go_must (refine (lent_any _ n ps _ (HSRC.out _ (Below.refl _ _)) hn (by omega)).mono ?_; rintro e w1 ⟨rfl, hrow1, hb1⟩; have hS1 := KS w1 hb1; have hH1 := lt_of_row hrow1; have HR1 : Hid (w1.heap[W.heap.size]? = some (.cells (ptCells (ps ++ tail3)).toArray 24 (0, 0))) := hrow1; clear hrow1)) | (go_at_call 28; go_must (refine (insideE_no1 _ n ps ax ay _ (sl_of_row HR1.out hn) hn (by omega) h64 hok).mono ?_; rintro e w2 ⟨hb2, rfl⟩; have hW2 : Below W.heap.size W w2 := below_step hb2 hb1; have hS2 := KS w2 hW2; have HR2 : Hid (w2.heap[W.heap.size]? = some (.cells (ptCells (ps ++ tail3)).toArray 24 (0, 0))) := (hb2.block _ hH1).trans HR1.out)) | (go_at_call 29; go_must (refine (whole_any W.heap.size n _ ps _ HR2.out (HSRC.out _ hW2) hn (by omega)).mono ?_; rintro e w3 ⟨rfl, hb3⟩; have hW3 : Below W.heap.size W w3 := hW2.trans hb3; have hS3 := KS w3 hW3)) | (go_at_call 20; go_must (refine (num_any _ _).mono ?_; rintro e w9 ⟨rfl, rfl⟩)) | (go_at_call 15; have g4 := hb4; go_must (refine (points_no _ 1 [(ax, ay)] _ (src_one (by simp)) rfl (by omega) hp64 hpk).mono ?_; rintro e w5 ⟨hb5, rfl⟩; have hbb5 : Below w4.heap.size w4 w5 := below_alloc_of _ hb5; have hW5 : Below W.heap.size W w5 := below_step hbb5 hW4)) | (go_at_call 15; go_must (refine (points_no _ n ps _ (HSRC.out _ hW3) hn (by omega) h64 hok).mono ?_; rintro e w4 ⟨hb4, rfl⟩; have hW4 : Below W.heap.size W w4 := below_step hb4 hW3; have hS4 := KS w4 hW4)))
  go_ret
  exact ⟨hw.trans (Below.mono (B := W.heap.size) hW5 hw.size), rfl⟩

set_option maxHeartbeats 8000000 in
set_option maxRecDepth 100000 in
theorem inlaw_no2 (ad : Addr) (sc : Nat) (n ax ay bx by' cx cy dx dy : Nat) (ps : List (Nat × Nat)) (w : World) (hv : SrcAt w (.slice (some ad) n sc) n ps) (hn : ps.length = n) (hnm : n ≤ 100) (h64 : ∀ p ∈ ps, p.1 < 2 ^ 64 ∧ p.2 < 2 ^ 64) (hp64 : ∀ p ∈ [(ax, ay)], p.1 < 2 ^ 64 ∧ p.2 < 2 ^ 64) (hok : okPts ps = true) (hpk : okPts [(ax, ay)] = false) :
    Calls Tryz.prog 13 #[.agg #[.int .i64 5, .int .u64 ax, .int .u64 ay, .int .u64 bx, .int .u64 by', .int .u64 cx, .int .u64 cy, .int .u64 dx, .int .u64 dy, .slice (some ad) n sc]] w fun e w' => Below w.heap.size w w' ∧ e = .returned (.bool true) := by
  go_enter Tryz.func13, Tryz.ntmps13
  go_upto_region 1 with fail
  generalize hW : World.alloc w _ = W
  have hWs : W.heap.size = w.heap.size + 1 := by subst hW; simp
  have hw : Below w.heap.size w W := by subst hW; exact (Below.refl _ _).alloc (Nat.le_refl _) _
  have KS : ∀ w', Below W.heap.size W w' → (w'.cell? ⟨w.heap.size, 1, none⟩ = some (.int .u64 ax) ∧ w'.cell? ⟨w.heap.size, 2, none⟩ = some (.int .u64 ay) ∧ w'.cell? ⟨w.heap.size, 9, none⟩ = some (.slice (some ad) n sc)) := by
    intro w' hb
    obtain ⟨hc, _⟩ := bcell hb
    refine ⟨?_, ?_, ?_⟩
    all_goals (rw [hc _ _ (by omega)]; subst hW; simp [go_sem])
  have HSRC : Hid (∀ w', Below W.heap.size W w' → SrcAt w' (.slice (some ad) n sc) n ps) := fun w' hb => SrcAt.kept (w := w) (hv) (hw.trans (hb.mono hw.size))
  clear hW hWs hv
  have hS0 := KS W (Below.refl _ _)
  go_wp2_with (first | (go_at_call 27; go_must (refine (lent_any _ n ps _ (HSRC.out _ (Below.refl _ _)) hn (by omega)).mono ?_; rintro e w1 ⟨rfl, hrow1, hb1⟩; have hS1 := KS w1 hb1; have hH1 := lt_of_row hrow1; have HR1 : Hid (w1.heap[W.heap.size]? = some (.cells (ptCells (ps ++ tail3)).toArray 24 (0, 0))) := hrow1; clear hrow1)) | (go_at_call 28; go_must (refine (insideE_no2 _ n ps ax ay _ (sl_of_row HR1.out hn) hn (by omega) h64 hok hp64 hpk).mono ?_; rintro e w2 ⟨hb2, rfl⟩; have hW2 : Below W.heap.size W w2 := below_step hb2 hb1; have hS2 := KS w2 hW2; have HR2 : Hid (w2.heap[W.heap.size]? = some (.cells (ptCells (ps ++ tail3)).toArray 24 (0, 0))) := (hb2.block _ hH1).trans HR1.out)) | (go_at_call 29; go_must (refine (whole_any W.heap.size n _ ps _ HR2.out (HSRC.out _ hW2) hn (by omega)).mono ?_; rintro e w3 ⟨rfl, hb3⟩; have hW3 : Below W.heap.size W w3 := hW2.trans hb3; have hS3 := KS w3 hW3)) | (go_at_call 20; go_must (refine (num_any _ _).mono ?_; rintro e w9 ⟨rfl, rfl⟩)) | (go_at_call 15; have g4 := hb4; go_must (refine (points_no _ 1 [(ax, ay)] _ (src_one (by simp)) rfl (by omega) hp64 hpk).mono ?_; rintro e w5 ⟨hb5, rfl⟩; have hbb5 : Below w4.heap.size w4 w5 := below_alloc_of _ hb5; have hW5 : Below W.heap.size W w5 := below_step hbb5 hW4)) | (go_at_call 15; go_must (refine (points_yes _ n ps _ (HSRC.out _ hW3) hn (by omega) h64 hok).mono ?_; rintro e w4 ⟨hb4, v4, rfl, hP4⟩; obtain ⟨o4, c4, hf4⟩ := hP4.form; subst hf4; have hW4 : Below W.heap.size W w4 := below_step hb4 hW3; have hS4 := KS w4 hW4)))
  go_ret
  exact ⟨hw.trans (Below.mono (B := W.heap.size) hW5 hw.size), rfl⟩

set_option maxHeartbeats 8000000 in
set_option maxRecDepth 100000 in
theorem inlaw_ok (ad : Addr) (sc : Nat) (n ax ay bx by' cx cy dx dy : Nat) (ps : List (Nat × Nat)) (w : World) (hv : SrcAt w (.slice (some ad) n sc) n ps) (hn : ps.length = n) (hnm : n ≤ 100) (h64 : ∀ p ∈ ps, p.1 < 2 ^ 64 ∧ p.2 < 2 ^ 64) (hp64 : ∀ p ∈ [(ax, ay)], p.1 < 2 ^ 64 ∧ p.2 < 2 ^ 64) (hok : okPts ps = true) (hpk : okPts [(ax, ay)] = true) :
    Calls Tryz.prog 13 #[.agg #[.int .i64 5, .int .u64 ax, .int .u64 ay, .int .u64 bx, .int .u64 by', .int .u64 cx, .int .u64 cy, .int .u64 dx, .int .u64 dy, .slice (some ad) n sc]] w fun e w' => Below w.heap.size w w' ∧ e = .returned (.bool true) := by
  go_enter Tryz.func13, Tryz.ntmps13
  go_upto_region 1 with fail
  generalize hW : World.alloc w _ = W
  have hWs : W.heap.size = w.heap.size + 1 := by subst hW; simp
  have hw : Below w.heap.size w W := by subst hW; exact (Below.refl _ _).alloc (Nat.le_refl _) _
  have KS : ∀ w', Below W.heap.size W w' → (w'.cell? ⟨w.heap.size, 1, none⟩ = some (.int .u64 ax) ∧ w'.cell? ⟨w.heap.size, 2, none⟩ = some (.int .u64 ay) ∧ w'.cell? ⟨w.heap.size, 9, none⟩ = some (.slice (some ad) n sc)) := by
    intro w' hb
    obtain ⟨hc, _⟩ := bcell hb
    refine ⟨?_, ?_, ?_⟩
    all_goals (rw [hc _ _ (by omega)]; subst hW; simp [go_sem])
  have HSRC : Hid (∀ w', Below W.heap.size W w' → SrcAt w' (.slice (some ad) n sc) n ps) := fun w' hb => SrcAt.kept (w := w) (hv) (hw.trans (hb.mono hw.size))
  clear hW hWs hv
  have hS0 := KS W (Below.refl _ _)
  go_wp2_with (first | (go_at_call 27; go_must (refine (lent_any _ n ps _ (HSRC.out _ (Below.refl _ _)) hn (by omega)).mono ?_; rintro e w1 ⟨rfl, hrow1, hb1⟩; have hS1 := KS w1 hb1; have hH1 := lt_of_row hrow1; have HR1 : Hid (w1.heap[W.heap.size]? = some (.cells (ptCells (ps ++ tail3)).toArray 24 (0, 0))) := hrow1; clear hrow1)) | (go_at_call 28; go_must (refine (insideE_ok _ n ps ax ay _ (sl_of_row HR1.out hn) hn (by omega) h64 hok hp64 hpk).mono ?_; rintro e w2 ⟨hb2, rfl⟩; have hW2 : Below W.heap.size W w2 := below_step hb2 hb1; have hS2 := KS w2 hW2; have HR2 : Hid (w2.heap[W.heap.size]? = some (.cells (ptCells (ps ++ tail3)).toArray 24 (0, 0))) := (hb2.block _ hH1).trans HR1.out)) | (go_at_call 29; go_must (refine (whole_any W.heap.size n _ ps _ HR2.out (HSRC.out _ hW2) hn (by omega)).mono ?_; rintro e w3 ⟨rfl, hb3⟩; have hW3 : Below W.heap.size W w3 := hW2.trans hb3; have hS3 := KS w3 hW3)) | (go_at_call 20; go_must (refine (num_any _ _).mono ?_; rintro e w9 ⟨rfl, rfl⟩)) | (go_at_call 15; have g4 := hb4; go_must (refine (points_yes _ 1 [(ax, ay)] _ (src_one (by simp)) rfl (by omega) hp64 hpk).mono ?_; rintro e w5 ⟨hb5, v5, rfl, hP5⟩; obtain ⟨g5, c5, nx, ox, kx, lx, ny, oy, ky, ly, hf5, hc5, hx5, hy5, sx5, sy5⟩ := poly_one hP5; subst hf5; have hbb5 : Below w4.heap.size w4 w5 := below_alloc_of _ hb5; have hW5 : Below W.heap.size W w5 := below_step hbb5 hW4)) | (go_at_call 15; go_must (refine (points_yes _ n ps _ (HSRC.out _ hW3) hn (by omega) h64 hok).mono ?_; rintro e w4 ⟨hb4, v4, rfl, hP4⟩; obtain ⟨o4, c4, hf4⟩ := hP4.form; subst hf4; have hW4 : Below W.heap.size W w4 := below_step hb4 hW3; have hS4 := KS w4 hW4)) | (go_at_call 30; go_must (refine (rinside_gen _ n ps nx ox kx lx (crd ax) ny oy ky ly (crd ay) _ (hP4.kept hbb5) (by omega) hx5 sx5 hy5 sy5).mono ?_; rintro e w6 ⟨hb6, rfl⟩; have hW6 : Below W.heap.size W w6 := below_step hb6 hW5)))
  go_ret
  exact ⟨hw.trans (Below.mono (B := W.heap.size) hW6 hw.size), rfl⟩

set_option maxHeartbeats 8000000 in
set_option maxRecDepth 100000 in
theorem inlaw_no2nil (ax ay bx by' cx cy dx dy : Nat) (ps : List (Nat × Nat)) (w : World) (hn : ps.length = 0) (h64 : ∀ p ∈ ps, p.1 < 2 ^ 64 ∧ p.2 < 2 ^ 64) (hp64 : ∀ p ∈ [(ax, ay)], p.1 < 2 ^ 64 ∧ p.2 < 2 ^ 64) (hok : okPts ps = true) (hpk : okPts [(ax, ay)] = false) :
    Calls Tryz.prog 13 #[.agg #[.int .i64 5, .int .u64 ax, .int .u64 ay, .int .u64 bx, .int .u64 by', .int .u64 cx, .int .u64 cy, .int .u64 dx, .int .u64 dy, .slice none 0 0]] w fun e w' => Below w.heap.size w w' ∧ e = .returned (.bool true) := by
  go_enter Tryz.func13, Tryz.ntmps13
  go_upto_region 1 with fail
  generalize hW : World.alloc w _ = W
  have hWs : W.heap.size = w.heap.size + 1 := by subst hW; simp
  have hw : Below w.heap.size w W := by subst hW; exact (Below.refl _ _).alloc (Nat.le_refl _) _
  have KS : ∀ w', Below W.heap.size W w' → (w'.cell? ⟨w.heap.size, 1, none⟩ = some (.int .u64 ax) ∧ w'.cell? ⟨w.heap.size, 2, none⟩ = some (.int .u64 ay) ∧ w'.cell? ⟨w.heap.size, 9, none⟩ = some (.slice none 0 0)) := by
    intro w' hb
    obtain ⟨hc, _⟩ := bcell hb
    refine ⟨?_, ?_, ?_⟩
    all_goals (rw [hc _ _ (by omega)]; subst hW; simp [go_sem])
  have HSRC : Hid (∀ w', Below W.heap.size W w' → SrcAt w' (.slice none 0 0) 0 ps) := fun w' hb => SrcAt.kept (w := w) (.inl ⟨rfl, rfl⟩) (hw.trans (hb.mono hw.size))
  clear hW hWs 
  have hS0 := KS W (Below.refl _ _)
  go_wp2_with (first | (go_at_call 27; go_must (refine (lent_any _ 0 ps _ (HSRC.out _ (Below.refl _ _)) hn (by omega)).mono ?_; rintro e w1 ⟨rfl, hrow1, hb1⟩; have hS1 := KS w1 hb1; have hH1 := lt_of_row hrow1; have HR1 : Hid (w1.heap[W.heap.size]? = some (.cells (ptCells (ps ++ tail3)).toArray 24 (0, 0))) := hrow1; clear hrow1)) | (go_at_call 28; go_must (refine (insideE_no2 _ 0 ps ax ay _ (.inl ⟨rfl, rfl⟩) hn (by omega) h64 hok hp64 hpk).mono ?_; rintro e w2 ⟨hb2, rfl⟩; have hW2 : Below W.heap.size W w2 := below_step hb2 hb1; have hS2 := KS w2 hW2; have HR2 : Hid (w2.heap[W.heap.size]? = some (.cells (ptCells (ps ++ tail3)).toArray 24 (0, 0))) := (hb2.block _ hH1).trans HR1.out)) | (go_at_call 29; go_must (refine (whole_any W.heap.size 0 _ ps _ HR2.out (HSRC.out _ hW2) hn (by omega)).mono ?_; rintro e w3 ⟨rfl, hb3⟩; have hW3 : Below W.heap.size W w3 := hW2.trans hb3; have hS3 := KS w3 hW3)) | (go_at_call 20; go_must (refine (num_any _ _).mono ?_; rintro e w9 ⟨rfl, rfl⟩)) | (go_at_call 15; have g4 := hb4; go_must (refine (points_no _ 1 [(ax, ay)] _ (src_one (by simp)) rfl (by omega) hp64 hpk).mono ?_; rintro e w5 ⟨hb5, rfl⟩; have hbb5 : Below w4.heap.size w4 w5 := below_alloc_of _ hb5; have hW5 : Below W.heap.size W w5 := below_step hbb5 hW4)) | (go_at_call 15; go_must (refine (points_yes _ 0 ps _ (HSRC.out _ hW3) hn (by omega) h64 hok).mono ?_; rintro e w4 ⟨hb4, v4, rfl, hP4⟩; obtain ⟨o4, c4, hf4⟩ := hP4.form; subst hf4; have hW4 : Below W.heap.size W w4 := below_step hb4 hW3; have hS4 := KS w4 hW4)))
  go_ret
  exact ⟨hw.trans (Below.mono (B := W.heap.size) hW5 hw.size), rfl⟩

set_option maxHeartbeats 8000000 in
set_option maxRecDepth 100000 in
theorem inlaw_oknil (ax ay bx by' cx cy dx dy : Nat) (ps : List (Nat × Nat)) (w : World) (hn : ps.length = 0) (h64 : ∀ p ∈ ps, p.1 < 2 ^ 64 ∧ p.2 < 2 ^ 64) (hp64 : ∀ p ∈ [(ax, ay)], p.1 < 2 ^ 64 ∧ p.2 < 2 ^ 64) (hok : okPts ps = true) (hpk : okPts [(ax, ay)] = true) :
    Calls Tryz.prog 13 #[.agg #[.int .i64 5, .int .u64 ax, .int .u64 ay, .int .u64 bx, .int .u64 by', .int .u64 cx, .int .u64 cy, .int .u64 dx, .int .u64 dy, .slice none 0 0]] w fun e w' => Below w.heap.size w w' ∧ e = .returned (.bool true) := by
  go_enter Tryz.func13, Tryz.ntmps13
  go_upto_region 1 with fail
  generalize hW : World.alloc w _ = W
  have hWs : W.heap.size = w.heap.size + 1 := by subst hW; simp
  have hw : Below w.heap.size w W := by subst hW; exact (Below.refl _ _).alloc (Nat.le_refl _) _
  have KS : ∀ w', Below W.heap.size W w' → (w'.cell? ⟨w.heap.size, 1, none⟩ = some (.int .u64 ax) ∧ w'.cell? ⟨w.heap.size, 2, none⟩ = some (.int .u64 ay) ∧ w'.cell? ⟨w.heap.size, 9, none⟩ = some (.slice none 0 0)) := by
    intro w' hb
    obtain ⟨hc, _⟩ := bcell hb
    refine ⟨?_, ?_, ?_⟩
    all_goals (rw [hc _ _ (by omega)]; subst hW; simp [go_sem])
  have HSRC : Hid (∀ w', Below W.heap.size W w' → SrcAt w' (.slice none 0 0) 0 ps) := fun w' hb => SrcAt.kept (w := w) (.inl ⟨rfl, rfl⟩) (hw.trans (hb.mono hw.size))
  clear hW hWs 
  have hS0 := KS W (Below.refl _ _)
  go_wp2_with (first | (go_at_call 27; go_must (refine (lent_any _ 0 ps _ (HSRC.out _ (Below.refl _ _)) hn (by omega)).mono ?_; rintro e w1 ⟨rfl, hrow1, hb1⟩; have hS1 := KS w1 hb1; have hH1 := lt_of_row hrow1; have HR1 : Hid (w1.heap[W.heap.size]? = some (.cells (ptCells (ps ++ tail3)).toArray 24 (0, 0))) := hrow1; clear hrow1)) | (go_at_call 28; go_must (refine (insideE_ok _ 0 ps ax ay _ (.inl ⟨rfl, rfl⟩) hn (by omega) h64 hok hp64 hpk).mono ?_; rintro e w2 ⟨hb2, rfl⟩; have hW2 : Below W.heap.size W w2 := below_step hb2 hb1; have hS2 := KS w2 hW2; have HR2 : Hid (w2.heap[W.heap.size]? = some (.cells (ptCells (ps ++ tail3)).toArray 24 (0, 0))) := (hb2.block _ hH1).trans HR1.out)) | (go_at_call 29; go_must (refine (whole_any W.heap.size 0 _ ps _ HR2.out (HSRC.out _ hW2) hn (by omega)).mono ?_; rintro e w3 ⟨rfl, hb3⟩; have hW3 : Below W.heap.size W w3 := hW2.trans hb3; have hS3 := KS w3 hW3)) | (go_at_call 20; go_must (refine (num_any _ _).mono ?_; rintro e w9 ⟨rfl, rfl⟩)) | (go_at_call 15; have g4 := hb4; go_must (refine (points_yes _ 1 [(ax, ay)] _ (src_one (by simp)) rfl (by omega) hp64 hpk).mono ?_; rintro e w5 ⟨hb5, v5, rfl, hP5⟩; obtain ⟨g5, c5, nx, ox, kx, lx, ny, oy, ky, ly, hf5, hc5, hx5, hy5, sx5, sy5⟩ := poly_one hP5; subst hf5; have hbb5 : Below w4.heap.size w4 w5 := below_alloc_of _ hb5; have hW5 : Below W.heap.size W w5 := below_step hbb5 hW4)) | (go_at_call 15; go_must (refine (points_yes _ 0 ps _ (HSRC.out _ hW3) hn (by omega) h64 hok).mono ?_; rintro e w4 ⟨hb4, v4, rfl, hP4⟩; obtain ⟨o4, c4, hf4⟩ := hP4.form; subst hf4; have hW4 : Below W.heap.size W w4 := below_step hb4 hW3; have hS4 := KS w4 hW4)) | (go_at_call 30; go_must (refine (rinside_gen _ 0 ps nx ox kx lx (crd ax) ny oy ky ly (crd ay) _ (hP4.kept hbb5) (by omega) hx5 sx5 hy5 sy5).mono ?_; rintro e w6 ⟨hb6, rfl⟩; have hW6 : Below W.heap.size W w6 := below_step hb6 hW5)))
  go_ret
  exact ⟨hw.trans (Below.mono (B := W.heap.size) hW6 hw.size), rfl⟩

end Go.Proofs.YtbjjkfmdkmbcfaaGreat

namespace Go.Proofs.YtbjjkfmdkmbcfaaGreat
open Go.RowKit
open PlLv

attribute [local go_sem ↓] Go.wp_at_zero Go.wp_at_succ

theorem inlaw_any (sp : Option Addr) (n sc ax ay bx by' cx cy dx dy : Nat) (ps : List (Nat × Nat)) (w : World) (hv : SrcAt w (.slice sp n sc) n ps) (hn : ps.length = n) (hnb : n ≤ 8796093021952) (h64 : ∀ p ∈ ps, p.1 < 2 ^ 64 ∧ p.2 < 2 ^ 64) (hp64 : ∀ p ∈ [(ax, ay)], p.1 < 2 ^ 64 ∧ p.2 < 2 ^ 64) :
    Calls Tryz.prog 13 #[.agg #[.int .i64 5, .int .u64 ax, .int .u64 ay, .int .u64 bx, .int .u64 by', .int .u64 cx, .int .u64 cy, .int .u64 dx, .int .u64 dy, .slice sp n sc]] w fun e w' => Below w.heap.size w w' ∧ e = .returned (.bool true) := by
  rcases sp with _ | ad
  · have hz : n = 0 ∧ sc = 0 := by
      rcases hv with ⟨h1, h2⟩ | ⟨a, h1, h2⟩ | ⟨g, off, c, h1, hg, hp⟩
      · simp at h1; omega
      · simp at h1
      · simp at h1
    obtain ⟨rfl, rfl⟩ := hz
    have hok : okPts ps = true := by
      have hps : ps = [] := List.eq_nil_of_length_eq_zero hn
      subst hps
      rfl
    rcases hpk : okPts [(ax, ay)] with _ | _
    · exact inlaw_no2nil ax ay bx by' cx cy dx dy ps w hn h64 hp64 hok hpk
    · exact inlaw_oknil ax ay bx by' cx cy dx dy ps w hn h64 hp64 hok hpk
  · by_cases hm : 100 < n
    · exact inlaw_many ad sc n ax ay bx by' cx cy dx dy ps w hv hn hm hnb
    · rcases hok : okPts ps with _ | _ <;> rcases hpk : okPts [(ax, ay)] with _ | _
      · exact inlaw_no1n ad sc n ax ay bx by' cx cy dx dy ps w hv hn (by omega) h64 hp64 hok hpk
      · exact inlaw_no1y ad sc n ax ay bx by' cx cy dx dy ps w hv hn (by omega) h64 hp64 hok hpk
      · exact inlaw_no2 ad sc n ax ay bx by' cx cy dx dy ps w hv hn (by omega) h64 hp64 hok hpk
      · exact inlaw_ok ad sc n ax ay bx by' cx cy dx dy ps w hv hn (by omega) h64 hp64 hok hpk

set_option maxHeartbeats 2000000 in
set_option maxRecDepth 100000 in
theorem step_inside (pw : Option Addr) (sp : Option Addr) (n sc ax ay bx by' cx cy dx dy : Nat) (ps : List (Nat × Nat)) (w : World) (hv : SrcAt w (.slice sp n sc) n ps) (hn : ps.length = n) (hnb : n ≤ 8796093021952) (h64 : ∀ p ∈ ps, p.1 < 2 ^ 64 ∧ p.2 < 2 ^ 64) (hp64 : ∀ p ∈ [(ax, ay)], p.1 < 2 ^ 64 ∧ p.2 < 2 ^ 64) :
    Calls Tryz.prog 10 #[.pointer pw, .agg #[.int .i64 5, .int .u64 ax, .int .u64 ay, .int .u64 bx, .int .u64 by', .int .u64 cx, .int .u64 cy, .int .u64 dx, .int .u64 dy, .slice sp n sc]] w fun e w' => Below w.heap.size w w' ∧ e = .returned (.bool true) := by
  have HV : Hid (∀ o : Obj, SrcAt (w.alloc o) (.slice sp n sc) n ps) := fun o => hv.kept ((Below.refl _ w).alloc (Nat.le_refl _) o)
  clear hv
  go_enter Tryz.func10, Tryz.ntmps10
  go_wp2_with (go_at_call 13; go_must (refine (inlaw_any sp n sc ax ay bx by' cx cy dx dy ps _ (HV.out _) hn hnb h64 hp64).mono ?_; rintro e w1 ⟨hb1, rfl⟩))
  go_ret
  exact ⟨below_step hb1 ((Below.refl _ w).alloc (Nat.le_refl _) _), rfl⟩

/-- The one step of a play, as it lies in memory. -/
def OpIn (w : World) (g : Nat) (sp : Option Addr) (n sc ax ay : Nat) : Prop := w.cell? ⟨g, 0, none⟩ = some (.int .i64 5) ∧ w.cell? ⟨g, 1, none⟩ = some (.int .u64 ax) ∧ w.cell? ⟨g, 2, none⟩ = some (.int .u64 ay) ∧ w.cell? ⟨g, 3, none⟩ = some (.int .u64 0) ∧ w.cell? ⟨g, 4, none⟩ = some (.int .u64 0) ∧ w.cell? ⟨g, 5, none⟩ = some (.int .u64 0) ∧ w.cell? ⟨g, 6, none⟩ = some (.int .u64 0) ∧ w.cell? ⟨g, 7, none⟩ = some (.int .u64 0) ∧ w.cell? ⟨g, 8, none⟩ = some (.int .u64 0) ∧ w.cell? ⟨g, 9, none⟩ = some (.slice sp n sc)

theorem OpIn.kept {w w' : World} {g : Nat} {sp : Option Addr} {n sc ax ay : Nat} (h : OpIn w g sp n sc ax ay) (hg : g < w.heap.size) (hb : Below w.heap.size w w') : OpIn w' g sp n sc ax ay := by
  have hc : ∀ j, w'.cell? ⟨g, j, none⟩ = w.cell? ⟨g, j, none⟩ := fun j => hb.cell (p := ⟨g, j, none⟩) hg
  unfold OpIn
  simp only [hc]
  exact h

set_option maxHeartbeats 4000000 in
set_option maxRecDepth 100000 in
theorem plays_inside (g c : Nat) (sp : Option Addr) (n sc ax ay : Nat) (ps : List (Nat × Nat)) (w : World) (hg : g < w.heap.size) (hops : OpIn w g sp n sc ax ay) (hv : SrcAt w (.slice sp n sc) n ps) (hn : ps.length = n) (hnb : n ≤ 8796093021952) (h64 : ∀ p ∈ ps, p.1 < 2 ^ 64 ∧ p.2 < 2 ^ 64) (hp64 : ∀ p ∈ [(ax, ay)], p.1 < 2 ^ 64 ∧ p.2 < 2 ^ 64) :
    Calls Tryz.prog 8 #[.slice (some ⟨g, 0, none⟩) 1 c, .int .i64 5] w fun e w' => Below w.heap.size w w' ∧ e = .returned (.bool true) := by
  go_enter Tryz.func8, Tryz.ntmps8
  go_wp2
  generalize hW : World.alloc w _ = W
  have hWb : Below w.heap.size w W := by subst hW; exact (Below.refl _ _).alloc (Nat.le_refl _) _
  have hWs : w.heap.size < W.heap.size := by subst hW; simp
  have hW0 : W.cell? ⟨w.heap.size, 0, none⟩ = some (.slice none 0 0) := by subst hW; simp [go_sem]
  have hgW : g < W.heap.size := by omega
  have hopsW := hops.kept hg hWb
  have hvW := hv.kept hWb
  clear hW hops hv
  go_loopw [6] (fun si wr => ∃ k : Nat, si = .int .i64 k ∧ k ≤ 1 ∧ Below W.heap.size W wr) (fun si _ => 1 - (intOf si).toNat)
  case atStart => exact ⟨0, rfl, by omega, Below.refl _ _⟩
  case round =>
    obtain ⟨k, rfl, hk, hbel⟩ := hrel
    have hl0 : wr.cell? ⟨w.heap.size, 0, none⟩ = some (.slice none 0 0) := (hbel.cell (p := ⟨w.heap.size, 0, none⟩) hWs).trans hW0
    have KL : Hid (∀ W', Below wr.heap.size wr W' → W'.cell? ⟨w.heap.size, 0, none⟩ = some (.slice none 0 0)) := fun W' h => ((bcell h).1 _ _ (Nat.lt_of_lt_of_le hWs hbel.size)).trans hl0
    have HV : Hid (SrcAt wr (.slice sp n sc) n ps) := hvW.kept hbel
    have ho := hopsW.kept hgW hbel
    unfold OpIn at ho
    match k, hk with
    | 0, _ =>
      go_wp2_with (first | (go_at_call 10; go_must (refine (step_inside _ sp n sc ax ay 0 0 0 0 0 0 ps _ HV.out hn hnb h64 hp64).mono ?_; rintro e w1 ⟨hb1, rfl⟩; have hl1 := KL.out w1 hb1)) | (go_at_call 11; go_must (refine (still_any _ _ hl1).mono ?_; rintro e w2 ⟨rfl, rfl⟩)))
      go_roundw
      case rel => exact ⟨1, rfl, by omega, below_step hb1 hbel⟩
      case measure => simp [intOf]
    | 1, _ =>
      clear ho
      go_wp2
      go_ret
      exact ⟨hWb.trans (hbel.mono hWb.size), rfl⟩

/-- The document's square. -/
def sqPts : List (Nat × Nat) := [(0, 0), (4616189618054758400, 0), (4616189618054758400, 4616189618054758400), (0, 4616189618054758400)]

theorem sq64 : ∀ p ∈ sqPts, p.1 < 2 ^ 64 ∧ p.2 < 2 ^ 64 := by decide
theorem one64 : ∀ p ∈ [((4607182418800017408 : Nat), (4607182418800017408 : Nat))], p.1 < 2 ^ 64 ∧ p.2 < 2 ^ 64 := by decide

set_option maxHeartbeats 1000000 in
theorem lawsquare_any (w : World) : Calls Tryz.prog 9 #[] w fun e w' => e = .returned (.slice (some ⟨w.heap.size, 0, none⟩) 4 4) ∧ SrcAt w' (.slice (some ⟨w.heap.size, 0, none⟩) 4 4) 4 sqPts ∧ Below w.heap.size w w' := by
  go_enter Tryz.func9, Tryz.ntmps9
  go_wp2
  go_ret
  refine ⟨rfl, .inr (.inr ⟨_, 0, _, rfl, by simp, fun t ht => ?_⟩), (Below.refl _ w).alloc (Nat.le_refl _) _⟩
  match t, ht with
  | 0, _ => exact ⟨by simp [go_sem, sqPts], by simp [go_sem, sqPts]⟩
  | 1, _ => exact ⟨by simp [go_sem, sqPts], by simp [go_sem, sqPts]⟩
  | 2, _ => exact ⟨by simp [go_sem, sqPts], by simp [go_sem, sqPts]⟩
  | 3, _ => exact ⟨by simp [go_sem, sqPts], by simp [go_sem, sqPts]⟩

set_option maxHeartbeats 4000000 in
set_option maxRecDepth 100000 in
theorem insides_any (sp : Option Addr) (n sc px py : Nat) (ps : List (Nat × Nat)) (w : World) (hv : SrcAt w (.slice sp n sc) n ps) (hn : ps.length = n) (hnb : n ≤ 8796093021952) (h64 : ∀ p ∈ ps, p.1 < 2 ^ 64 ∧ p.2 < 2 ^ 64) (hp64 : ∀ p ∈ [(px, py)], p.1 < 2 ^ 64 ∧ p.2 < 2 ^ 64) :
    Calls Tryz.prog 6 #[.slice sp n sc, .agg #[.int .u64 px, .int .u64 py]] w fun e w' => e = .returned (.bool true) ∧ Below w.heap.size w w' := by
  go_enter Tryz.func6, Tryz.ntmps6
  go_upto_region 1 with fail
  generalize hW : World.alloc w _ = W
  have hWs : W.heap.size = w.heap.size + 1 := by subst hW; simp
  have hw : Below w.heap.size w W := by subst hW; exact (Below.refl _ _).alloc (Nat.le_refl _) _
  have KS : ∀ w', Below W.heap.size W w' → (w'.cell? ⟨w.heap.size, 0, none⟩ = some (.int .u64 px) ∧ w'.cell? ⟨w.heap.size, 1, none⟩ = some (.int .u64 py)) := by
    intro w' hb
    obtain ⟨hc, _⟩ := bcell hb
    refine ⟨?_, ?_⟩
    all_goals (rw [hc _ _ (by omega)]; subst hW; simp [go_sem])
  have HV : Hid (∀ w', Below W.heap.size W w' → SrcAt w' (.slice sp n sc) n ps) := fun w' hb => hv.kept (hw.trans (hb.mono hw.size))
  clear hW hWs hv
  go_wp2_with (first
    | (go_at_call 9; go_must (refine (lawsquare_any _).mono ?_; rintro e w1 ⟨rfl, hq1, hb1⟩))
    | (go_at_call 8; have g2 := hb2; go_must (refine (plays_inside _ 1 sp n sc px py ps _ (by simp) (by unfold OpIn; simp [go_sem]) (HV.out _ (below_alloc _ hW2)) hn hnb h64 hp64).mono ?_; rintro e w3 ⟨hb3, rfl⟩; have hW3 : Below W.heap.size W w3 := below_step hb3 (below_alloc _ hW2)))
    | (go_at_call 8; go_must (refine (plays_inside _ 1 _ 4 4 4607182418800017408 4607182418800017408 sqPts _ (by simp) (by unfold OpIn; simp [go_sem]) (hq1.kept ((Below.refl _ _).alloc (Nat.le_refl _) _)) rfl (by omega) sq64 one64).mono ?_; rintro e w2 ⟨hb2, rfl⟩; have hW2 : Below W.heap.size W w2 := below_step hb2 (below_alloc _ hb1); have hS2 := KS w2 hW2)))
  go_ret
  exact ⟨rfl, hw.trans (hW3.mono hw.size)⟩

end Go.Proofs.YtbjjkfmdkmbcfaaGreat

namespace Go.Proofs.YtbjjkfmdkmbcfaaGreat
open Go.ChangeShapes Go.WideShapes Go.ChangeAt Go.RowKit Go.Joins Go.Deep

theorem own : ownKnob Tryz.prog.godebug = none := by kernel_rfl
theorem cellsPt : Tryz.prog.cellsOf 24 = 2 := by kernel_rfl
theorem cellsU : Tryz.prog.cellsOf 22 = 1 := by kernel_rfl
theorem bytesPt : Tryz.prog.bytesOf 24 = 16 := by kernel_rfl
theorem laidOut : laidOutB Tryz.prog = true := by kernel_rfl

theorem nat_of_wf {a : Int} (h : (Lit.int .u64 a).wf = true) : ∃ n : Nat, a = (n : Int) ∧ n < 2 ^ 64 := by
  have h1 := bounds_u64 h
  exact ⟨a.toNat, by omega, by omega⟩

/-- The slice of points that came in. -/
theorem src_open {H : Type} {enc : TypeId × Value → H} {W : World} {v0 : Value} {d0 : DataW H} {p0 : List MemPlace} {fuel : Nat} (h : DataW.trod enc Tryz.prog W 0 (fun _ => true) true fuel 26 [v0] = some (d0, p0)) (hsz : ∀ elems spare, d0 = .slice elems spare → (elems.length + spare.length) * 16 ≤ reachBytes) :
    ∃ (sp : Option Addr) (n sc : Nat) (ps : List (Nat × Nat)), v0 = .slice sp n sc ∧ SrcAt W (.slice sp n sc) n ps ∧ ps.length = n ∧ n ≤ 8796093021952 ∧ ∀ p ∈ ps, p.1 < 2 ^ 64 ∧ p.2 < 2 ^ 64 := by
  rcases open_slice_pairs Tryz.underlying26 Tryz.underlying24 cellsPt rfl rfl cellsU cellsU h with ⟨hc, hx⟩ | ⟨a, len, cap, m, k, V0, V1, D0, D1, P0, P1, hc, _, hl, hm, hmm, hx, hall⟩
  · simp only [List.cons.injEq, and_true] at hc
    exact ⟨none, 0, 0, [], hc, .inl ⟨rfl, rfl⟩, rfl, by omega, fun p hp => by cases hp⟩
  · simp only [List.cons.injEq, and_true] at hc
    simp only [if_true] at hmm
    subst hmm
    simp only [Prod.mk.injEq] at hx
    have hb : m ≤ 8796093021952 := by
      have h1 := hsz _ _ hx.1
      simp at h1
      have h2 : reachBytes = 140737488351232 := by decide
      omega
    have each : ∀ i, i < m → ∃ q : Nat × Nat, V0 i = .int .u64 (q.1 : Nat) ∧ V1 i = .int .u64 (q.2 : Nat) ∧ q.1 < 2 ^ 64 ∧ q.2 < 2 ^ 64 := fun i hi => by
      obtain ⟨_, _, h0, h1⟩ := hall i hi
      obtain ⟨a0, e0, _, w0⟩ := DataW.trod_int Tryz.underlying22 h0
      obtain ⟨a1, e1, _, w1⟩ := DataW.trod_int Tryz.underlying22 h1
      simp only [List.cons.injEq, and_true] at e0 e1
      obtain ⟨n0, rfl, l0⟩ := nat_of_wf w0
      obtain ⟨n1, rfl, l1⟩ := nat_of_wf w1
      exact ⟨(n0, n1), e0, e1, l0, l1⟩
    obtain ⟨q, hq⟩ := choose_lt each
    refine ⟨some a, len, m, (List.range len).map q, hc, ?_, by simp, by omega, ?_⟩
    · by_cases h0 : m = 0
      · have hl0 : len = 0 := by omega
        subst h0 hl0
        exact .inr (.inl ⟨a, rfl, rfl⟩)
      · obtain ⟨sb, so, spot⟩ := a
        have hc0 := (hall 0 (by omega)).1
        have hspot : spot = none := by simpa [Addr.add] using World.cell?_spot hc0
        subst hspot
        have hlt : sb < W.heap.size := by
          have := World.block_lt_of_cell? W _ hc0
          simpa [Addr.add] using this
        refine .inr (.inr ⟨sb, so, m, rfl, hlt, fun t ht => ?_⟩)
        have ht' : t < len := by simpa using ht
        obtain ⟨g0, g1, _, _⟩ := hall t (by omega)
        obtain ⟨e0, e1, _, _⟩ := hq t (by omega)
        have eg : ((List.range len).map q).getD t (0, 0) = q t := by
          rw [List.getD_eq_getElem?_getD, List.getElem?_map, List.getElem?_range ht']; rfl
        have ad : ∀ j, (⟨sb, so, none⟩ : Addr).add j = ⟨sb, so + j, none⟩ := fun j => by unfold Addr.add; split <;> simp_all
        rw [ad, e0] at g0
        rw [ad, e1] at g1
        rw [eg]
        exact ⟨g0, by rw [Nat.add_assoc]; exact g1⟩
    · intro p hp
      obtain ⟨i, hi, rfl⟩ := List.mem_map.1 hp
      have := List.mem_range.1 hi
      obtain ⟨_, _, l0, l1⟩ := hq i (by omega)
      exact ⟨l0, l1⟩

set_option maxRecDepth 100000 in
theorem lifted (os : Os) (started : os.Started) (H : Type) (enc : TypeId × Value → H) :
    ReturnsInHanded {} Tryz.checked os 6 .any (Rows.insidesSpec.pre6 enc Tryz.prog Tryz.f6 Rows.insidesRow.domain false) (Rows.insidesSpec.post enc Tryz.prog Tryz.f6 false true false false) := by
  refine returnsInHanded_of_change_sized (C := Tryz.checked) own started (by kernel_rfl) Tryz.func6
    (ChangeSpec.witness6 (enc := enc) (C := Tryz.checked) false ⟨#[], #[.slice none 0 0, .agg #[.int .u64 0, .int .u64 0]], []⟩ 8 (by kernel_rfl) (by kernel_rfl) (by kernel_rfl) (by kernel_rfl)) ?_
  intro W base args ds gs before hval0 hW _ hsz0 _
  have hsz : (DataW.weightsEach Tryz.prog (Tryz.f6.params.toList ++ Rows.insidesSpec.plain.varTypes Tryz.prog) (ds ++ gs)).all (· ≤ reachBytes) = true := hsz0
  clear hsz0
  have hval : ∀ (j : Nat) t v, Tryz.f6.params[j]? = some t → args[j]? = some v → Value.okWide Tryz.prog W .any base t v := hval0
  have hW' := hW
  obtain ⟨p, q, hA0, hV, rfl, hfz, hnd⟩ := hW
  have hA : DataW.TrodAll enc Tryz.prog W 0 (fun _ => true) true Tryz.f6.params.toList args.toList ds p := hA0
  rw [Tryz.params6] at hA hval
  obtain ⟨v0, v1, d0, d1, p0, p1, rfl, rfl, rfl, h0, h1⟩ := trodAll_two hA
  obtain ⟨rfl, rfl⟩ := trodVars_none hV
  obtain ⟨c0, c1, y0, y1, m0, rfl, rfl, rfl, hy0, hy1⟩ := open_agg2 Tryz.underlying24 (by kernel_rfl) cellsPt (hval 1 24 v1 rfl rfl) h1
  obtain ⟨a0, e0, rfl, w0⟩ := DataW.trod_int Tryz.underlying22 hy0
  obtain ⟨a1, e1, rfl, w1⟩ := DataW.trod_int Tryz.underlying22 hy1
  simp at e0 e1
  subst e0 e1
  clear hA0 hval0
  obtain ⟨n0, rfl, l0⟩ := nat_of_wf w0
  obtain ⟨n1, rfl, l1⟩ := nat_of_wf w1
  simp only [List.append_nil] at hW'
  have hlt : ∀ x ∈ p0, x.block < W.heap.size := fun x hx => by simpa using hW'.lt x hx
  obtain ⟨va, vl, vc, rfl⟩ := okWide_slice Tryz.underlying26 (hval 0 26 v0 rfl rfl)
  have h0k := h0
  obtain ⟨fuel, ht0⟩ := h0
  have hreach : ∀ elems spare, d0 = .slice elems spare → (elems.length + spare.length) * 16 ≤ reachBytes := fun elems spare hd => by
    have hr := sized_slice hsz (j := 0) (t := 26) (e := 24) (elems := elems) (spare := spare) rfl (by rw [hd]; rfl) Tryz.underlying26
    rwa [bytesPt] at hr
  obtain ⟨sp, n, sc, ps, hv0, hsrc, hn, hnb, h64⟩ := src_open (v0 := .slice va vl vc) (by simpa [Value.cells] using ht0) hreach
  simp only [Value.slice.injEq] at hv0
  obtain ⟨rfl, rfl, rfl⟩ := hv0
  have hp64 : ∀ p ∈ [(n0, n1)], p.1 < 2 ^ 64 ∧ p.2 < 2 ^ 64 := by
    intro p hp
    simp at hp
    subst hp
    exact ⟨l0, l1⟩
  have reads : ∀ (W' : World) (sp : Nat → Bool) (a b : Int), (Lit.int .u64 a).wf = true → (Lit.int .u64 b).wf = true → DataW.Trod enc Tryz.prog W' 0 sp true 24 (.agg #[.int .u64 a, .int .u64 b]) (.agg [.lit (.int .u64 a), .lit (.int .u64 b)]) [] := fun W' sp a b wa wb =>
    shut_agg2 (y0 := (.lit (.int .u64 a), [])) (y1 := (.lit (.int .u64 b), [])) Tryz.underlying24 (by kernel_rfl) cellsPt ⟨1, by simp [DataW.trod, Tryz.underlying22, wa]⟩ ⟨1, by simp [DataW.trod, Tryz.underlying22, wb]⟩
  refine (insides_any va vl vc n0 n1 ps W hsrc hn hnb h64 hp64).mono fun e W' ⟨he, bel⟩ => ?_
  subst he
  exact ⟨_, rfl, _, _, _, [], p0 ++ [], [], hW', trodAll_mk1 (shut_bool Tryz.underlying4 _), trodAll_mk2 (Below.trod laidOut (by kernel_rfl) (of_decide_eq_true (by kernel_rfl)) h0k bel hlt) (reads _ _ _ _ w0 w1), rfl, bel.frame _, fun h => by cases h⟩

theorem insides_holds : Rows.InsidesSaid :=
  OpenClaim.holds_of_wide 6 Tryz.f6 rfl rfl rfl rfl rfl rfl rfl ⟨rfl, rfl, rfl, rfl, rfl⟩ rfl rfl rfl rfl rfl (by kernel_rfl) Tryz.func6 (by kernel_rfl)
    (of_decide_eq_true (by kernel_rfl)) (by unfold Func.isWrapper; first | (rw [if_pos (by decide +kernel)]; kernel_rfl) | (rw [if_neg (by decide +kernel)]; exact ⟨rfl, rfl⟩))
    (fun os started H enc _ => lifted os started H enc)

#print axioms insides_holds
end Go.Proofs.YtbjjkfmdkmbcfaaGreat
