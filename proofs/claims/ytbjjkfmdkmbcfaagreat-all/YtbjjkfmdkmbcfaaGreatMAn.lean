import Derived.Test.YtbjjkfmdkmbcfaaGreatMLp
import Derived.Test.YtbjjkfmdkmbcfaaGreatMAm
import Derived.Test.YtbjjkfmdkmbcfaaGreatMLb
import Derived.Test.YtbjjkfmdkmbcfaaGreatMAo
import Derived.Test.YtbjjkfmdkmbcfaaGreatMBa
import Derived.Test.YtbjjkfmdkmbcfaaGreatMBb
namespace Go.Proofs.YtbjjkfmdkmbcfaaGreat
open Go.RowKit
open PlLv

attribute [local go_sem ↓] Go.wp_at_zero Go.wp_at_succ

set_option maxHeartbeats 8000000 in
set_option maxRecDepth 100000 in
theorem asked_circle_no_g (ax ay bx by' cx cy dx dy : Nat) (lo : Option Addr) (ln lc : Nat) (w : World) (h64 : ∀ p ∈ [(ax, ay), (bx, by'), (cx, cy), (dx, dy)], p.1 < 2 ^ 64 ∧ p.2 < 2 ^ 64) (hok : okPts [(ax, ay), (bx, by'), (cx, cy), (dx, dy)] = false) :
    Calls Tryz.prog 12 #[.agg #[.int .i64 3, .int .u64 ax, .int .u64 ay, .int .u64 bx, .int .u64 by', .int .u64 cx, .int .u64 cy, .int .u64 dx, .int .u64 dy, .slice lo ln lc]] w fun e w' => Below w.heap.size w w' ∧ e = .returned (.bool true) := by
  obtain ⟨i0, hi, hz0, hz1, hz2⟩ := info_parts infoPt
  go_enter Tryz.func12, Tryz.ntmps12
  go_upto_region 1 with fail
  generalize hW : World.alloc w _ = W
  have hWs : W.heap.size = w.heap.size + 1 := by subst hW; simp
  have hw : Below w.heap.size w W := by subst hW; exact (Below.refl _ _).alloc (Nat.le_refl _) _
  have KS : ∀ w', Below W.heap.size W w' → (w'.cell? ⟨w.heap.size, 0, none⟩ = some (.int .i64 3) ∧ w'.cell? ⟨w.heap.size, 1, none⟩ = some (.int .u64 ax) ∧ w'.cell? ⟨w.heap.size, 2, none⟩ = some (.int .u64 ay) ∧ w'.cell? ⟨w.heap.size, 3, none⟩ = some (.int .u64 bx) ∧ w'.cell? ⟨w.heap.size, 4, none⟩ = some (.int .u64 by') ∧ w'.cell? ⟨w.heap.size, 5, none⟩ = some (.int .u64 cx) ∧ w'.cell? ⟨w.heap.size, 6, none⟩ = some (.int .u64 cy) ∧ w'.cell? ⟨w.heap.size, 7, none⟩ = some (.int .u64 dx) ∧ w'.cell? ⟨w.heap.size, 8, none⟩ = some (.int .u64 dy)) := by
    intro w' hb
    obtain ⟨hc, _⟩ := bcell hb
    refine ⟨?_, ?_, ?_, ?_, ?_, ?_, ?_, ?_, ?_⟩
    all_goals (rw [hc _ _ (by omega)]; subst hW; simp [go_sem])
  have hlt : w.heap.size < W.heap.size := by omega
  clear hW hWs
  have hS0 := KS W (Below.refl _ _)
  go_wp2_with (first | (at_builtin; go_must (refine wpList_append_own _ rfl _ _ 26 rfl W.heap.size 24 i0 _ 2 16 Tryz.underlying26 hi hz0 hz1 hz2 rfl (by decide) _ 3 [.int .u64 ax, .int .u64 ay, .int .u64 bx, .int .u64 by', .int .u64 cx, .int .u64 cy] rfl (own_new6 rfl (Nat.le_refl _)) ⟨_, 0, none⟩ 1 1 [.int .u64 dx, .int .u64 dy] rfl rfl (cells_two (by simp [go_sem]) (by simp [go_sem])) (by intro u hu; simp at hu; rcases hu with rfl | rfl <;> rfl) (by unfold maxLen; omega) (by omega) (by simp <;> omega) ?_; intro v' wA hA1 hA2 _; obtain ⟨gA, cA, hvA, hgA, hcA⟩ := own8 hA1; subst hvA; have hWA : Below W.heap.size W wA := Below.grown (((Below.refl _ W).alloc (Nat.le_refl _) _).alloc (by simp) _) hA2 (by simp <;> omega) (fun k hk => by cases hk; exact Nat.le_refl _); have hSA := KS wA hWA; clear hA1 hA2)) | (go_at_call 15; go_must (refine (points4_no gA cA ax ay bx by' cx cy dx dy _ h64 (hcA 0 (by decide)) (hcA 1 (by decide)) (hcA 2 (by decide)) (hcA 3 (by decide)) (hcA 4 (by decide)) (hcA 5 (by decide)) (hcA 6 (by decide)) (hcA 7 (by decide)) hgA hok).mono ?_; rintro e w1 ⟨hb1, rfl⟩; have hW1 : Below W.heap.size W w1 := below_step hb1 hWA; have hS1 := KS w1 hW1)) | (go_at_call 18; go_must (refine (circle_no ax ay bx by' cx cy dx dy _ h64 hok).mono ?_; rintro e w2 ⟨hb2, rfl⟩; have hW2 : Below W.heap.size W w2 := below_step hb2 hW1)) | (go_at_call 20; go_must (refine (num_any _ _).mono ?_; rintro e w3 ⟨rfl, rfl⟩)))
  go_ret
  exact ⟨hw.trans (hW2.mono hw.size), rfl⟩

set_option maxHeartbeats 8000000 in
set_option maxRecDepth 100000 in
theorem asked_circle_ok_g (ax ay bx by' cx cy dx dy : Nat) (lo : Option Addr) (ln lc : Nat) (w : World) (h64 : ∀ p ∈ [(ax, ay), (bx, by'), (cx, cy), (dx, dy)], p.1 < 2 ^ 64 ∧ p.2 < 2 ^ 64) (hok : okPts [(ax, ay), (bx, by'), (cx, cy), (dx, dy)] = true) :
    Calls Tryz.prog 12 #[.agg #[.int .i64 3, .int .u64 ax, .int .u64 ay, .int .u64 bx, .int .u64 by', .int .u64 cx, .int .u64 cy, .int .u64 dx, .int .u64 dy, .slice lo ln lc]] w fun e w' => Below w.heap.size w w' ∧ e = .returned (.bool true) := by
  have hm : (mayB ax = true ∧ mayB ay = true) ∧ (mayB bx = true ∧ mayB by' = true) ∧ (mayB cx = true ∧ mayB cy = true) ∧ (mayB dx = true ∧ mayB dy = true) := by simpa [okPts] using hok
  have sax := crd_lt hm.1.1
  have say := crd_lt hm.1.2
  have sbx := crd_lt hm.2.1.1
  have sby := crd_lt hm.2.1.2
  have scx := crd_lt hm.2.2.1.1
  have scy := crd_lt hm.2.2.1.2
  have sdx := crd_lt hm.2.2.2.1
  have sdy := crd_lt hm.2.2.2.2
  clear hm
  have HO : Hid (∀ V, Calls Tryz.prog 18 #[.agg #[.int .u64 ax, .int .u64 ay], .agg #[.int .u64 bx, .int .u64 by'], .agg #[.int .u64 cx, .int .u64 cy], .agg #[.int .u64 dx, .int .u64 dy]] V fun e w' => Below V.heap.size V w' ∧ e = .returned (.tuple #[.int .i64 (PlRd.sgn (circS (((crd ax - crd dx) * (crd ax - crd dx) + (crd ay - crd dy) * (crd ay - crd dy)) * ((crd bx - crd dx) * (crd cy - crd dy) - (crd by' - crd dy) * (crd cx - crd dx))) (((crd bx - crd dx) * (crd bx - crd dx) + (crd by' - crd dy) * (crd by' - crd dy)) * ((crd cx - crd dx) * (crd ay - crd dy) - (crd cy - crd dy) * (crd ax - crd dx))) (((crd cx - crd dx) * (crd cx - crd dx) + (crd cy - crd dy) * (crd cy - crd dy)) * ((crd ax - crd dx) * (crd by' - crd dy) - (crd ay - crd dy) * (crd bx - crd dx))) 3)), .int .i64 0])) := fun V => circp_ok ax ay bx by' cx cy dx dy V h64 hok
  obtain ⟨i0, hi, hz0, hz1, hz2⟩ := info_parts infoPt
  go_enter Tryz.func12, Tryz.ntmps12
  go_upto_region 1 with fail
  generalize hW : World.alloc w _ = W
  have hWs : W.heap.size = w.heap.size + 1 := by subst hW; simp
  have hw : Below w.heap.size w W := by subst hW; exact (Below.refl _ _).alloc (Nat.le_refl _) _
  have KS : ∀ w', Below W.heap.size W w' → (w'.cell? ⟨w.heap.size, 0, none⟩ = some (.int .i64 3) ∧ w'.cell? ⟨w.heap.size, 1, none⟩ = some (.int .u64 ax) ∧ w'.cell? ⟨w.heap.size, 2, none⟩ = some (.int .u64 ay) ∧ w'.cell? ⟨w.heap.size, 3, none⟩ = some (.int .u64 bx) ∧ w'.cell? ⟨w.heap.size, 4, none⟩ = some (.int .u64 by') ∧ w'.cell? ⟨w.heap.size, 5, none⟩ = some (.int .u64 cx) ∧ w'.cell? ⟨w.heap.size, 6, none⟩ = some (.int .u64 cy) ∧ w'.cell? ⟨w.heap.size, 7, none⟩ = some (.int .u64 dx) ∧ w'.cell? ⟨w.heap.size, 8, none⟩ = some (.int .u64 dy)) := by
    intro w' hb
    obtain ⟨hc, _⟩ := bcell hb
    refine ⟨?_, ?_, ?_, ?_, ?_, ?_, ?_, ?_, ?_⟩
    all_goals (rw [hc _ _ (by omega)]; subst hW; simp [go_sem])
  have hlt : w.heap.size < W.heap.size := by omega
  clear hW hWs
  have hS0 := KS W (Below.refl _ _)
  go_wp2_with (first | (at_builtin; go_must (refine wpList_append_own _ rfl _ _ 26 rfl W.heap.size 24 i0 _ 2 16 Tryz.underlying26 hi hz0 hz1 hz2 rfl (by decide) _ 3 [.int .u64 ax, .int .u64 ay, .int .u64 bx, .int .u64 by', .int .u64 cx, .int .u64 cy] rfl (own_new6 rfl (Nat.le_refl _)) ⟨_, 0, none⟩ 1 1 [.int .u64 dx, .int .u64 dy] rfl rfl (cells_two (by simp [go_sem]) (by simp [go_sem])) (by intro u hu; simp at hu; rcases hu with rfl | rfl <;> rfl) (by unfold maxLen; omega) (by omega) (by simp <;> omega) ?_; intro v' wA hA1 hA2 _; obtain ⟨gA, cA, hvA, hgA, hcA⟩ := own8 hA1; subst hvA; have hWA : Below W.heap.size W wA := Below.grown (((Below.refl _ W).alloc (Nat.le_refl _) _).alloc (by simp) _) hA2 (by simp <;> omega) (fun k hk => by cases hk; exact Nat.le_refl _); have hSA := KS wA hWA; clear hA1 hA2)) | (go_at_call 15; go_must (refine (points4_ok gA cA ax ay bx by' cx cy dx dy _ h64 (hcA 0 (by decide)) (hcA 1 (by decide)) (hcA 2 (by decide)) (hcA 3 (by decide)) (hcA 4 (by decide)) (hcA 5 (by decide)) (hcA 6 (by decide)) (hcA 7 (by decide)) hgA hok).mono ?_; rintro e w1 ⟨hb1, g, c0, qa, qb, qc, qd, rfl, hQ, Pa, Pb, Pc, Pd⟩; have hW1 : Below W.heap.size W w1 := below_step hb1 hWA; have hS1 := KS w1 hW1)) | (go_at_call 18; go_must (refine (HO.out _).mono ?_; rintro e w2 ⟨hb2, rfl⟩; have hW2 : Below W.heap.size W w2 := below_step hb2 hW1; have hS2 := KS w2 hW2; replace hQ := hQ.kept hb2; replace Pa := Pa.kept hb2; replace Pb := Pb.kept hb2; replace Pc := Pc.kept hb2; replace Pd := Pd.kept hb2)))
  obtain ⟨nax, vax, lax, nay, vay, lay⟩ := qa
  obtain ⟨nbx, vbx, lbx, nby, vby, lby⟩ := qb
  obtain ⟨ncx, vcx, lcx, ncy, vcy, lcy⟩ := qc
  obtain ⟨ndx, vdx, ldx, ndy, vdy, ldy⟩ := qd
  obtain ⟨oax, kax, hfax⟩ := bg_form Pa.1; simp only at hfax; subst hfax
  obtain ⟨oay, kay, hfay⟩ := bg_form Pa.2; simp only at hfay; subst hfay
  obtain ⟨obx, kbx, hfbx⟩ := bg_form Pb.1; simp only at hfbx; subst hfbx
  obtain ⟨oby, kby, hfby⟩ := bg_form Pb.2; simp only at hfby; subst hfby
  obtain ⟨ocx, kcx, hfcx⟩ := bg_form Pc.1; simp only at hfcx; subst hfcx
  obtain ⟨ocy, kcy, hfcy⟩ := bg_form Pc.2; simp only at hfcy; subst hfcy
  obtain ⟨odx, kdx, hfdx⟩ := bg_form Pd.1; simp only at hfdx; subst hfdx
  obtain ⟨ody, kdy, hfdy⟩ := bg_form Pd.2; simp only at hfdy; subst hfdy
  have KQ : ∀ w', Below w2.heap.size w2 w' → (w'.cell? ⟨g, 0, none⟩ = some (.bool nax) ∧ w'.cell? ⟨g, 1, none⟩ = some (.slice oax lax.length kax) ∧ w'.cell? ⟨g, 2, none⟩ = some (.bool nay) ∧ w'.cell? ⟨g, 3, none⟩ = some (.slice oay lay.length kay) ∧ w'.cell? ⟨g, 4, none⟩ = some (.bool nbx) ∧ w'.cell? ⟨g, 5, none⟩ = some (.slice obx lbx.length kbx) ∧ w'.cell? ⟨g, 6, none⟩ = some (.bool nby) ∧ w'.cell? ⟨g, 7, none⟩ = some (.slice oby lby.length kby) ∧ w'.cell? ⟨g, 8, none⟩ = some (.bool ncx) ∧ w'.cell? ⟨g, 9, none⟩ = some (.slice ocx lcx.length kcx) ∧ w'.cell? ⟨g, 10, none⟩ = some (.bool ncy) ∧ w'.cell? ⟨g, 11, none⟩ = some (.slice ocy lcy.length kcy) ∧ w'.cell? ⟨g, 12, none⟩ = some (.bool ndx) ∧ w'.cell? ⟨g, 13, none⟩ = some (.slice odx ldx.length kdx) ∧ w'.cell? ⟨g, 14, none⟩ = some (.bool ndy) ∧ w'.cell? ⟨g, 15, none⟩ = some (.slice ody ldy.length kdy)) := fun w' hb => (hQ.kept hb).cs
  have hQ0 := KQ w2 (Below.refl _ _)
  clear hQ
  go_region_held3 (fun w' : World => (w'.cell? ⟨g, 0, none⟩ = some (.bool nax) ∧ w'.cell? ⟨g, 1, none⟩ = some (.slice oax lax.length kax) ∧ w'.cell? ⟨g, 2, none⟩ = some (.bool nay) ∧ w'.cell? ⟨g, 3, none⟩ = some (.slice oay lay.length kay) ∧ w'.cell? ⟨g, 4, none⟩ = some (.bool nbx) ∧ w'.cell? ⟨g, 5, none⟩ = some (.slice obx lbx.length kbx) ∧ w'.cell? ⟨g, 6, none⟩ = some (.bool nby) ∧ w'.cell? ⟨g, 7, none⟩ = some (.slice oby lby.length kby) ∧ w'.cell? ⟨g, 8, none⟩ = some (.bool ncx) ∧ w'.cell? ⟨g, 9, none⟩ = some (.slice ocx lcx.length kcx) ∧ w'.cell? ⟨g, 10, none⟩ = some (.bool ncy) ∧ w'.cell? ⟨g, 11, none⟩ = some (.slice ocy lcy.length kcy) ∧ w'.cell? ⟨g, 12, none⟩ = some (.bool ndx) ∧ w'.cell? ⟨g, 13, none⟩ = some (.slice odx ldx.length kdx) ∧ w'.cell? ⟨g, 14, none⟩ = some (.bool ndy) ∧ w'.cell? ⟨g, 15, none⟩ = some (.slice ody ldy.length kdy))) (exact KQ _ (by repeat (first | exact hV3 | exact Below.refl _ _ | refine Below.drew ?_))) (first | (go_at_call 25; go_must (refine (rcircle_any nax oax kax lax (crd ax) nay oay kay lay (crd ay) nbx obx kbx lbx (crd bx) nby oby kby lby (crd by') ncx ocx kcx lcx (crd cx) ncy ocy kcy lcy (crd cy) ndx odx kdx ldx (crd dx) ndy ody kdy ldy (crd dy) _ (Pa.1.kept (by repeat (first | exact Below.refl _ _ | refine Below.drew ?_))) sax (Pa.2.kept (by repeat (first | exact Below.refl _ _ | refine Below.drew ?_))) say (Pb.1.kept (by repeat (first | exact Below.refl _ _ | refine Below.drew ?_))) sbx (Pb.2.kept (by repeat (first | exact Below.refl _ _ | refine Below.drew ?_))) sby (Pc.1.kept (by repeat (first | exact Below.refl _ _ | refine Below.drew ?_))) scx (Pc.2.kept (by repeat (first | exact Below.refl _ _ | refine Below.drew ?_))) scy (Pd.1.kept (by repeat (first | exact Below.refl _ _ | refine Below.drew ?_))) sdx (Pd.2.kept (by repeat (first | exact Below.refl _ _ | refine Below.drew ?_))) sdy).mono ?_; rintro e w3 ⟨hb3, rfl⟩; have hV3 : Below w2.heap.size w2 w3 := below_step hb3 (by repeat (first | exact Below.refl _ _ | refine Below.drew ?_)))))
  all_goals
    go_wp2
    go_ret
    exact ⟨hw.trans ((below_step hV3 hW2).mono hw.size), rfl⟩

set_option maxHeartbeats 2000000 in
set_option maxRecDepth 100000 in
theorem step_circle_g (pw : Option Addr) (ax ay bx by' cx cy dx dy : Nat) (lo : Option Addr) (ln lc : Nat) (w : World) (h64 : ∀ p ∈ [(ax, ay), (bx, by'), (cx, cy), (dx, dy)], p.1 < 2 ^ 64 ∧ p.2 < 2 ^ 64) :
    Calls Tryz.prog 10 #[.pointer pw, .agg #[.int .i64 3, .int .u64 ax, .int .u64 ay, .int .u64 bx, .int .u64 by', .int .u64 cx, .int .u64 cy, .int .u64 dx, .int .u64 dy, .slice lo ln lc]] w fun e w' => Below w.heap.size w w' ∧ e = .returned (.bool true) := by
  have HA : Hid (∀ W, Calls Tryz.prog 12 #[.agg #[.int .i64 3, .int .u64 ax, .int .u64 ay, .int .u64 bx, .int .u64 by', .int .u64 cx, .int .u64 cy, .int .u64 dx, .int .u64 dy, .slice lo ln lc]] W fun e w' => Below W.heap.size W w' ∧ e = .returned (.bool true)) := fun W => by
    rcases hok : okPts [(ax, ay), (bx, by'), (cx, cy), (dx, dy)] with _ | _
    · exact asked_circle_no_g ax ay bx by' cx cy dx dy lo ln lc W h64 hok
    · exact asked_circle_ok_g ax ay bx by' cx cy dx dy lo ln lc W h64 hok
  go_enter Tryz.func10, Tryz.ntmps10
  go_wp2_with (go_at_call 12; go_must (refine (HA.out _).mono ?_; rintro e w1 ⟨hb1, rfl⟩))
  go_ret
  exact ⟨below_step hb1 ((Below.refl _ w).alloc (Nat.le_refl _) _), rfl⟩

end Go.Proofs.YtbjjkfmdkmbcfaaGreat

namespace Go.Proofs.YtbjjkfmdkmbcfaaGreat
open Go.RowKit
open PlLv

attribute [local go_sem ↓] Go.wp_at_zero Go.wp_at_succ

theorem hullW_len (X : Nat → Int × Int) (n f : Nat) : ∀ k out b, (hullW X n f k out b).length ≤ out.length + k := by
  intro k
  induction k with
  | zero => intro out b; rw [hullW]; omega
  | succ k ih =>
    intro out b
    cases b with
    | none => rw [hullW]; omega
    | some a =>
      rw [hullW]
      split
      · omega
      · have := ih (out ++ [a]) (bestN X (X a) n)
        rw [List.length_append] at this
        simp only [List.length_cons, List.length_nil] at this
        omega

theorem hullR_len (X : Nat → Int × Int) (n : Nat) : (hullR X n).length ≤ n + 1 := by
  unfold hullR
  split
  · simp
  · have := hullW_len X n (firstN X n) n [firstN X n] (bestN X (X (firstN X n)) n)
    simp only [List.length_cons, List.length_nil] at this
    omega

theorem cw_of_cv {w : World} {base : Nat} {v : Value} {xs ys : List Nat} (h : CV w base v xs) (e : ys = xs) : CW w base v ys := by
  subst e
  exact h

theorem hullE_cw (n : Nat) (ps : List (Nat × Nat)) (hn : ps.length = n) (hnm : n ≤ 100) (h64 : ∀ p ∈ ps, p.1 < 2 ^ 64 ∧ p.2 < 2 ^ 64) (hok : okPts ps = true) : ∀ V v, SlAt V v n ps → Calls Tryz.prog 31 #[v] V fun e w' => ∃ u, e = .returned (.tuple #[u, .int .i64 0]) ∧ CW w' V.heap.size u (hullR (crdX ps) n) ∧ Below V.heap.size V w' := by
  intro V v hv
  refine (hullE_ok v n ps V hv hn hnm h64 hok).mono ?_
  rintro e w' ⟨o, u, ho, rfl, hC, hb⟩
  exact ⟨u, rfl, cw_of_cv hC (hullR_ord ho.ord), hb⟩

theorem src_none {w : World} {n sc : Nat} {ps : List (Nat × Nat)} (hv : SrcAt w (.slice none n sc) n ps) : n = 0 ∧ sc = 0 := by
  rcases hv with ⟨h1, h2⟩ | ⟨a, h1, h2⟩ | ⟨g, off, c, h1, hg, hp⟩
  · simp at h1; omega
  · simp at h1
  · simp at h1

theorem hull_law (base box q : Nat) (lv : Value) (ls : List Value) (ax ay bx bY cx cy dx dy : Nat) (lo : Option Addr) (ln lc : Nat) (ps : List (Nat × Nat)) (w : World) (hO : OpOk w ⟨6, ax, ay, bx, bY, cx, cy, dx, dy, lo, ln, lc, ps⟩) (hK : Bk w base box lv ls) (hl : ls.length = 4 * q) (hlen : (4 * q + 4) * 24 ≤ 140737488355328) :
    Calls Tryz.prog 14 #[.pointer (some ⟨box, 0, none⟩), .agg #[.int .i64 6, .int .u64 ax, .int .u64 ay, .int .u64 bx, .int .u64 bY, .int .u64 cx, .int .u64 cy, .int .u64 dx, .int .u64 dy, .slice lo ln lc]] w fun e w' => e = .returned (.bool true) ∧ Below base w w' ∧ ∃ lv' ls' q', Bk w' base box lv' ls' ∧ ls'.length = 4 * q' ∧ q' ≤ q + 1 := by
  obtain ⟨hv, hn, hnb, h64, _⟩ := hO
  dsimp only at hv hn hnb h64
  have hbw : base ≤ w.heap.size := Nat.le_trans hK.le (Nat.le_of_lt hK.lt)
  have easy : ∀ e w', (Below w.heap.size w w' ∧ e = Ending.returned (.bool true)) → e = .returned (.bool true) ∧ Below base w w' ∧ ∃ lv' ls' q', Bk w' base box lv' ls' ∧ ls'.length = 4 * q' ∧ q' ≤ q + 1 := fun e w' ⟨h1, h2⟩ => ⟨h2, h1.mono hbw, lv, ls, q, hK.kept h1, hl, by omega⟩
  have hard : ∀ e w', (e = Ending.returned (.bool true) ∧ Below base w w' ∧ ∃ lv' ls', Bk w' base box lv' ls' ∧ ls'.length = 4 * (q + 1)) → e = .returned (.bool true) ∧ Below base w w' ∧ ∃ lv' ls' q', Bk w' base box lv' ls' ∧ ls'.length = 4 * q' ∧ q' ≤ q + 1 := fun e w' ⟨h1, h2, lv', ls', h3, h4⟩ => ⟨h1, h2, lv', ls', q + 1, h3, h4, Nat.le_refl _⟩
  rcases lo with _ | ad
  · obtain ⟨rfl, rfl⟩ := src_none hv
    have hok : okPts ps = true := by
      have hps : ps = [] := List.eq_nil_of_length_eq_zero hn
      subst hps
      rfl
    exact (hlaw_oknil ax ay bx bY cx cy dx dy ps w hn h64 hok _ rfl (Nat.le_trans (hullR_len _ _) (by omega)) (hullE_cw 0 ps hn (by omega) h64 hok) base box q (4 * q) lv ls hK hl.symm rfl hlen).mono hard
  · by_cases hm : 100 < ln
    · exact (hlaw_many _ ad lc ln ax ay bx bY cx cy dx dy ps w hv hn hm hnb).mono easy
    · rcases hok : okPts ps with _ | _
      · exact (hlaw_no _ ad lc ln ax ay bx bY cx cy dx dy ps w hv hn (by omega) h64 hok).mono easy
      · exact (hlaw_ok ad lc ln ax ay bx bY cx cy dx dy ps w hv hn (by omega) h64 hok _ rfl (Nat.le_trans (hullR_len _ _) (by omega)) (hullE_cw ln ps hn (by omega) h64 hok) base box q (4 * q) lv ls hK hl.symm rfl hlen).mono hard

set_option maxHeartbeats 2000000 in
set_option maxRecDepth 100000 in
theorem step_hull (base box q : Nat) (lv : Value) (ls : List Value) (ax ay bx bY cx cy dx dy : Nat) (lo : Option Addr) (ln lc : Nat) (ps : List (Nat × Nat)) (w : World) (hO : OpOk w ⟨6, ax, ay, bx, bY, cx, cy, dx, dy, lo, ln, lc, ps⟩) (hK : Bk w base box lv ls) (hl : ls.length = 4 * q) (hlen : (4 * q + 4) * 24 ≤ 140737488355328) :
    Calls Tryz.prog 10 #[.pointer (some ⟨box, 0, none⟩), .agg #[.int .i64 6, .int .u64 ax, .int .u64 ay, .int .u64 bx, .int .u64 bY, .int .u64 cx, .int .u64 cy, .int .u64 dx, .int .u64 dy, .slice lo ln lc]] w fun e w' => e = .returned (.bool true) ∧ Below base w w' ∧ ∃ lv' ls' q', Bk w' base box lv' ls' ∧ ls'.length = 4 * q' ∧ q' ≤ q + 1 := by
  have HO : Hid (∀ o : Obj, OpOk (w.alloc o) ⟨6, ax, ay, bx, bY, cx, cy, dx, dy, lo, ln, lc, ps⟩) := fun o => hO.kept (below_one _ _)
  have HK : Hid (∀ o : Obj, Bk (w.alloc o) base box lv ls) := fun o => hK.alloc o
  have HL : Hid (ls.length = 4 * q) := hl
  have HB : Hid (∀ o : Obj, Below base w (w.alloc o)) := fun o => (below_one w o).mono (Nat.le_trans hK.le (Nat.le_of_lt hK.lt))
  clear hO hK hl
  go_enter Tryz.func10, Tryz.ntmps10
  go_wp2_with (go_at_call 14; go_must (refine (hull_law base box q lv ls ax ay bx bY cx cy dx dy lo ln lc ps _ (HO.out _) (HK.out _) HL.out hlen).mono ?_; rintro e w1 ⟨rfl, hb1, lv1, ls1, q1, hK1, hl1, hq1⟩))
  go_ret
  exact ⟨rfl, (HB.out _).trans hb1, lv1, ls1, q1, hK1, hl1, hq1⟩

set_option maxHeartbeats 2000000 in
set_option maxRecDepth 100000 in
theorem step_other (pw : Option Addr) (k : Int) (ax ay bx bY cx cy dx dy : Nat) (lo : Option Addr) (ln lc : Nat) (w : World) (h1 : k ≠ 1) (h2 : k ≠ 2) (h3 : k ≠ 3) (h4 : k ≠ 4) (h5 : k ≠ 5) (h6 : k ≠ 6) :
    Calls Tryz.prog 10 #[.pointer pw, .agg #[.int .i64 k, .int .u64 ax, .int .u64 ay, .int .u64 bx, .int .u64 bY, .int .u64 cx, .int .u64 cy, .int .u64 dx, .int .u64 dy, .slice lo ln lc]] w fun e w' => Below w.heap.size w w' ∧ e = .returned (.bool true) := by
  have e1 : (k == 1) = false := by simp [h1]
  have e2 : (k == 2) = false := by simp [h2]
  have e3 : (k == 3) = false := by simp [h3]
  have e4 : (k == 4) = false := by simp [h4]
  have e5 : (k == 5) = false := by simp [h5]
  have e6 : (k == 6) = false := by simp [h6]
  clear h1 h2 h3 h4 h5 h6
  go_enter Tryz.func10, Tryz.ntmps10
  go_wp2
  go_ret
  exact ⟨(Below.refl _ w).alloc (Nat.le_refl _) _, rfl⟩

theorem step_ok : StepOk := by
  intro base box q lv ls k ax ay bx bY cx cy dx dy lo ln lc ps w hO hK hl hlen
  have hbw : base ≤ w.heap.size := Nat.le_trans hK.le (Nat.le_of_lt hK.lt)
  have easy : ∀ e w', (Below w.heap.size w w' ∧ e = Ending.returned (.bool true)) → e = .returned (.bool true) ∧ Below base w w' ∧ ∃ lv' ls' q', Bk w' base box lv' ls' ∧ ls'.length = 4 * q' ∧ q' ≤ q + 1 := fun e w' ⟨h1, h2⟩ => ⟨h2, h1.mono hbw, lv, ls, q, hK.kept h1, hl, by omega⟩
  have c64 := hO.c64
  dsimp only at c64
  have c3 : ∀ p ∈ [(ax, ay), (bx, bY), (cx, cy)], p.1 < 2 ^ 64 ∧ p.2 < 2 ^ 64 := fun p hp => c64 p (by
    simp only [List.mem_cons, List.not_mem_nil, or_false] at hp ⊢
    rcases hp with h | h | h
    · exact .inl h
    · exact .inr (.inl h)
    · exact .inr (.inr (.inl h)))
  have c1 : ∀ p ∈ [(ax, ay)], p.1 < 2 ^ 64 ∧ p.2 < 2 ^ 64 := fun p hp => c64 p (by
    simp only [List.mem_cons, List.not_mem_nil, or_false] at hp ⊢
    exact .inl hp)
  by_cases h1 : k = 1
  · subst h1
    exact (step_orient_g _ ax ay bx bY cx cy dx dy lo ln lc w c3).mono easy
  by_cases h2 : k = 2
  · subst h2
    exact (step_nearer_g _ ax ay bx bY cx cy dx dy lo ln lc w c3).mono easy
  by_cases h3 : k = 3
  · subst h3
    exact (step_circle_g _ ax ay bx bY cx cy dx dy lo ln lc w c64).mono easy
  by_cases h4 : k = 4
  · subst h4
    exact (step_meet_g _ ax ay bx bY cx cy dx dy lo ln lc w c64).mono easy
  by_cases h5 : k = 5
  · subst h5
    exact (step_inside _ lo ln lc ax ay bx bY cx cy dx dy ps w hO.src hO.len hO.bound hO.p64 c1).mono easy
  by_cases h6 : k = 6
  · subst h6
    exact step_hull base box q lv ls ax ay bx bY cx cy dx dy lo ln lc ps w hO hK hl hlen
  exact (step_other _ k ax ay bx bY cx cy dx dy lo ln lc w h1 h2 h3 h4 h5 h6).mono easy

end Go.Proofs.YtbjjkfmdkmbcfaaGreat
