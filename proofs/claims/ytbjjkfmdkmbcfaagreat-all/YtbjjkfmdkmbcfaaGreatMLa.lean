import Derived.Test.YtbjjkfmdkmbcfaaGreatMOw
import Derived.Test.YtbjjkfmdkmbcfaaGreatMWz
import Derived.Test.YtbjjkfmdkmbcfaaGreatMSb
import Derived.Test.YtbjjkfmdkmbcfaaGreatMWi
import Derived.Test.YtbjjkfmdkmbcfaaGreatMRo
namespace Go.Proofs.YtbjjkfmdkmbcfaaGreat
open Go.RowKit
open PlRd

attribute [local go_sem ↓] Go.wp_at_zero Go.wp_at_succ

theorem cr_mayB {b : Nat} (h : mayB b = true) : Cr b (crd b) := by
  have h1 := co_mayB h
  rw [valB_crd h] at h1
  exact h1

theorem crs4_of_ok {ax ay bx by' cx cy dx dy : Nat} (hok : okPts [(ax, ay), (bx, by'), (cx, cy), (dx, dy)] = true) : (Cr ax (crd ax) ∧ Cr ay (crd ay)) ∧ (Cr bx (crd bx) ∧ Cr by' (crd by')) ∧ (Cr cx (crd cx) ∧ Cr cy (crd cy)) ∧ (Cr dx (crd dx) ∧ Cr dy (crd dy)) := by
  have hm : (mayB ax = true ∧ mayB ay = true) ∧ (mayB bx = true ∧ mayB by' = true) ∧ (mayB cx = true ∧ mayB cy = true) ∧ (mayB dx = true ∧ mayB dy = true) := by simpa [okPts] using hok
  exact ⟨⟨cr_mayB hm.1.1, cr_mayB hm.1.2⟩, ⟨cr_mayB hm.2.1.1, cr_mayB hm.2.1.2⟩, ⟨cr_mayB hm.2.2.1.1, cr_mayB hm.2.2.1.2⟩, ⟨cr_mayB hm.2.2.2.1, cr_mayB hm.2.2.2.2⟩⟩

theorem lies_on (PX PY AX AY BX BY : Int) : liesI PX PY AX AY BX BY = onP AX AY BX BY PX PY := by
  unfold liesI onP btw trn turnI
  rw [Bool.and_comm, Bool.and_assoc]

theorem meet_eq (AX AY BX BY CX CY DX DY : Int) : meetI AX AY BX BY CX CY DX DY = meetP AX AY BX BY CX CY DX DY := by
  unfold meetI meetP partsI
  simp only [lies_on, Bool.and_eq_true, decide_eq_true_eq, Bool.or_assoc]
  rfl

set_option maxHeartbeats 8000000 in
set_option maxRecDepth 100000 in
theorem meetp_ok (ax ay bx by' cx cy dx dy : Nat) (w : World) (h64 : ∀ p ∈ [(ax, ay), (bx, by'), (cx, cy), (dx, dy)], p.1 < 2 ^ 64 ∧ p.2 < 2 ^ 64) (hok : okPts [(ax, ay), (bx, by'), (cx, cy), (dx, dy)] = true) :
    Calls Tryz.prog 19 #[.agg #[.int .u64 ax, .int .u64 ay], .agg #[.int .u64 bx, .int .u64 by'], .agg #[.int .u64 cx, .int .u64 cy], .agg #[.int .u64 dx, .int .u64 dy]] w fun e w' => Below w.heap.size w w' ∧ e = .returned (.tuple #[.int .i64 (meetP (crd ax) (crd ay) (crd bx) (crd by') (crd cx) (crd cy) (crd dx) (crd dy)), .int .i64 0]) := by
  obtain ⟨⟨hax, hay⟩, ⟨hbx, hby⟩, ⟨hcx, hcy⟩, ⟨hdx, hdy⟩⟩ := crs4_of_ok hok
  have HM : Hid (∀ V, Calls Tryz.prog 44 #[.agg #[.float .f64 ax, .float .f64 ay], .agg #[.float .f64 bx, .float .f64 by'], .agg #[.float .f64 cx, .float .f64 cy], .agg #[.float .f64 dx, .float .f64 dy]] V fun e w' => e = .returned (.int .i64 (meetP (crd ax) (crd ay) (crd bx) (crd by') (crd cx) (crd cy) (crd dx) (crd dy))) ∧ Below V.heap.size V w') := fun V => by rw [← meet_eq]; exact meet_cr ax ay bx by' cx cy dx dy _ _ _ _ _ _ _ _ V hax hay hbx hby hcx hcy hdx hdy
  clear hax hay hbx hby hcx hcy hdx hdy
  go_enter Tryz.func19, Tryz.ntmps19
  go_wp2_with (go_at_call 35; go_must (refine (spots4_ok _ ax ay bx by' cx cy dx dy _ h64 (by simp [go_sem]) (by simp [go_sem]) (by simp [go_sem]) (by simp [go_sem]) (by simp [go_sem]) (by simp [go_sem]) (by simp [go_sem]) (by simp [go_sem]) (by simp) hok).mono ?_; rintro e W ⟨hb, rfl, hcs, hG⟩))
  have hw : Below w.heap.size w W := by
    refine Below.trans ?_ (hb.mono (by simp; omega))
    repeat (first | exact Below.refl _ _ | refine Below.drew ?_ | refine Below.alloc ?_ (by simp <;> omega) _)
  simp only [World.size_alloc] at hcs hG
  have KS : ∀ w', Below W.heap.size W w' → (w'.cell? ⟨w.heap.size + 1 + 1 + 1 + 1 + 1, 0, none⟩ = some (.float .f64 ax) ∧ w'.cell? ⟨w.heap.size + 1 + 1 + 1 + 1 + 1, 1, none⟩ = some (.float .f64 ay) ∧ w'.cell? ⟨w.heap.size + 1 + 1 + 1 + 1 + 1, 2, none⟩ = some (.float .f64 bx) ∧ w'.cell? ⟨w.heap.size + 1 + 1 + 1 + 1 + 1, 3, none⟩ = some (.float .f64 by') ∧ w'.cell? ⟨w.heap.size + 1 + 1 + 1 + 1 + 1, 4, none⟩ = some (.float .f64 cx) ∧ w'.cell? ⟨w.heap.size + 1 + 1 + 1 + 1 + 1, 5, none⟩ = some (.float .f64 cy) ∧ w'.cell? ⟨w.heap.size + 1 + 1 + 1 + 1 + 1, 6, none⟩ = some (.float .f64 dx) ∧ w'.cell? ⟨w.heap.size + 1 + 1 + 1 + 1 + 1, 7, none⟩ = some (.float .f64 dy)) := by
    intro w' h
    obtain ⟨hc, _⟩ := bcell h
    simp only [hc _ _ hG]
    exact hcs
  have hS0 := KS W (Below.refl _ _)
  clear hb hcs
  go_region_held3 (fun w' : World => (w'.cell? ⟨w.heap.size + 1 + 1 + 1 + 1 + 1, 0, none⟩ = some (.float .f64 ax) ∧ w'.cell? ⟨w.heap.size + 1 + 1 + 1 + 1 + 1, 1, none⟩ = some (.float .f64 ay) ∧ w'.cell? ⟨w.heap.size + 1 + 1 + 1 + 1 + 1, 2, none⟩ = some (.float .f64 bx) ∧ w'.cell? ⟨w.heap.size + 1 + 1 + 1 + 1 + 1, 3, none⟩ = some (.float .f64 by') ∧ w'.cell? ⟨w.heap.size + 1 + 1 + 1 + 1 + 1, 4, none⟩ = some (.float .f64 cx) ∧ w'.cell? ⟨w.heap.size + 1 + 1 + 1 + 1 + 1, 5, none⟩ = some (.float .f64 cy) ∧ w'.cell? ⟨w.heap.size + 1 + 1 + 1 + 1 + 1, 6, none⟩ = some (.float .f64 dx) ∧ w'.cell? ⟨w.heap.size + 1 + 1 + 1 + 1 + 1, 7, none⟩ = some (.float .f64 dy))) (exact KS _ (by repeat (first | exact hW1 | exact Below.refl _ _ | refine Below.drew ?_ | refine below_alloc _ ?_))) (first | (go_at_call 44; go_must (refine (HM.out _).mono ?_; rintro e w1 ⟨rfl, hb1⟩; have hW1 : Below W.heap.size W w1 := below_step hb1 (by repeat (first | exact Below.refl _ _ | refine Below.drew ?_ | refine below_alloc _ ?_)))))
  all_goals
    go_wp2
    go_ret2
    exact ⟨hw.trans (hW1.mono hw.size), rfl⟩

end Go.Proofs.YtbjjkfmdkmbcfaaGreat

namespace Go.Proofs.YtbjjkfmdkmbcfaaGreat
open Go.RowKit
open PlRd

attribute [local go_sem ↓] Go.wp_at_zero Go.wp_at_succ

/-- The corner ahead of corner j. -/
def preI (n j : Nat) : Nat := (j + n - 1) % n

theorem preI_zero {n : Nat} (h : 0 < n) : preI n 0 = n - 1 := by unfold preI; rw [Nat.zero_add]; exact Nat.mod_eq_of_lt (by omega)
theorem preI_succ {n m : Nat} (h : m < n) : preI n (m + 1) = m := by
  unfold preI
  rw [show m + 1 + n - 1 = m + n by omega, Nat.add_mod_right]
  exact Nat.mod_eq_of_lt h
theorem preI_lt {n : Nat} (j : Nat) (h : 0 < n) : preI n j < n := Nat.mod_lt _ h
theorem preI_next {n k : Nat} (h : k < n) : (preI n k + 1) % n = k := by
  cases k with
  | zero => rw [preI_zero h, show n - 1 + 1 = n by omega, Nat.mod_self]
  | succ m => rw [preI_succ (by omega)]; exact Nat.mod_eq_of_lt h

/-- How many of the first k edges, from the one that ends at corner 0 on, cross the half-line. -/
def cntP (X : Nat → Int × Int) (n : Nat) (p : Int × Int) : Nat → Nat
  | 0 => 0
  | k + 1 => (if 0 < crsT (X (n - 1)).1 (X (n - 1)).2 (X 0).1 (X 0).2 p.1 p.2 then 1 else 0) + crsN X n p k

theorem cnt_next {X : Nat → Int × Int} {n k : Nat} {p : Int × Int} (h : k < n) : cntP X n p (k + 1) = cntP X n p k + if 0 < crsT (X (preI n k)).1 (X (preI n k)).2 (X k).1 (X k).2 p.1 p.2 then 1 else 0 := by
  cases k with
  | zero => rw [preI_zero h]; show _ + crsN X n p 0 = 0 + _; rw [show crsN X n p 0 = 0 from rfl]; omega
  | succ m =>
    show _ + crsN X n p (m + 1) = _ + crsN X n p m + _
    rw [preI_succ (by omega), crsN, Nat.mod_eq_of_lt h]
    omega

theorem cnt_last {X : Nat → Int × Int} {n : Nat} {p : Int × Int} : cntP X n p n = crsN X n p n := by
  cases n with
  | zero => rfl
  | succ m =>
    show _ + crsN X (m + 1) p m = crsN X (m + 1) p (m + 1)
    rw [crsN, Nat.mod_self, show m + 1 - 1 = m by omega]
    omega

theorem cnt_le (X : Nat → Int × Int) (n : Nat) (p : Int × Int) (k : Nat) : cntP X n p k ≤ k := by
  cases k with
  | zero => exact Nat.le_refl _
  | succ m =>
    have := crsN_le X n p m
    show _ + crsN X n p m ≤ _
    split <;> omega

theorem edge_pre {X : Nat → Int × Int} {n k : Nat} {p : Int × Int} (h : k < n) : edgeOn X n p (preI n k) = onP (X (preI n k)).1 (X (preI n k)).2 (X k).1 (X k).2 p.1 p.2 := by
  unfold edgeOn
  rw [preI_next h]

theorem edges_all {X : Nat → Int × Int} {n : Nat} {p : Int × Int} (h : ∀ j, j < n → edgeOn X n p (preI n j) = false) : ∀ j, j < n → edgeOn X n p j = false := by
  intro j hj
  by_cases h1 : j + 1 < n
  · have := h (j + 1) h1
    rwa [preI_succ hj] at this
  · have := h 0 (by omega)
    rwa [preI_zero (by omega), show n - 1 = j by omega] at this

theorem boxes2 {w W : World} {a b c d : Value} {t : TypeId} (hb : Below ((w.alloc (.cells #[a, b] t)).alloc (.cells #[c, d] t)).heap.size ((w.alloc (.cells #[a, b] t)).alloc (.cells #[c, d] t)) W) : W.cell? ⟨w.heap.size, 0, none⟩ = some a ∧ W.cell? ⟨w.heap.size, 1, none⟩ = some b ∧ W.cell? ⟨w.heap.size + 1, 0, none⟩ = some c ∧ W.cell? ⟨w.heap.size + 1, 1, none⟩ = some d := by
  obtain ⟨hc, _⟩ := bcell hb
  rw [hc _ _ (by simp <;> omega), hc _ _ (by simp <;> omega), hc _ _ (by simp <;> omega), hc _ _ (by simp <;> omega)]
  simp [go_sem]

set_option maxHeartbeats 8000000 in
set_option maxRecDepth 100000 in
theorem inside_cr (g n c : Nat) (f : Nat → Nat × Nat) (X : Nat → Int × Int) (px py : Nat) (PX PY : Int) (w : World) (hn : n ≤ 100000) (hg : g < w.heap.size)
    (H : ∀ i, i < n → (w.cell? ⟨g, i * 2, none⟩ = some (.float .f64 (f i).1) ∧ w.cell? ⟨g, i * 2 + 1, none⟩ = some (.float .f64 (f i).2)) ∧ Cr (f i).1 (X i).1 ∧ Cr (f i).2 (X i).2) (hpx : Cr px PX) (hpy : Cr py PY) :
    Calls Tryz.prog 48 #[.slice (some ⟨g, 0, none⟩) n c, .agg #[.float .f64 px, .float .f64 py]] w fun e w' => e = .returned (.int .i64 (insV X n (PX, PY))) ∧ Below w.heap.size w w' := by
  go_enter Tryz.func48, Tryz.ntmps48
  go_upto_region 1 with fail
  generalize hW : World.alloc w _ = W
  have hWs : W.heap.size = w.heap.size + 1 := by subst hW; simp
  have hw : Below w.heap.size w W := by subst hW; exact (Below.refl _ _).alloc (Nat.le_refl _) _
  have KS : ∀ w', Below W.heap.size W w' → (w'.cell? ⟨w.heap.size, 0, none⟩ = some (.float .f64 px) ∧ w'.cell? ⟨w.heap.size, 1, none⟩ = some (.float .f64 py)) := by
    intro w' hb
    obtain ⟨hc, _⟩ := bcell hb
    refine ⟨?_, ?_⟩
    all_goals (rw [hc _ _ (by omega)]; subst hW; simp [go_sem])
  have hwl : w.heap.size < W.heap.size := by omega
  clear hW hWs
  go_wp2
  go_loopw [5, 11] (fun sn si wr => ∃ k : Nat, si = .int .i64 k ∧ sn = .int .i64 (cntP X n (PX, PY) k) ∧ k ≤ n ∧ (∀ j, j < k → edgeOn X n (PX, PY) (preI n j) = false) ∧ Below W.heap.size W wr) (fun _ si _ => n - (intOf si).toNat)
  case atStart => exact ⟨0, rfl, rfl, Nat.zero_le _, fun j hj => absurd hj (Nat.not_lt_zero _), Below.refl _ _⟩
  case round =>
    obtain ⟨k, rfl, rfl, hk, hno, hbel⟩ := hrel
    by_cases hlt : k < n
    · obtain ⟨m, hm⟩ : ∃ m, m = preI n k := ⟨_, rfl⟩
      have hmn : m < n := hm ▸ preI_lt k (by omega)
      obtain ⟨⟨UX, UY⟩, hXu⟩ : ∃ x, x = X m := ⟨_, rfl⟩
      obtain ⟨⟨VX, VY⟩, hXv⟩ : ∃ x, x = X k := ⟨_, rfl⟩
      have hu := H m hmn
      have hv := H k hlt
      rw [← hXu] at hu
      rw [← hXv] at hv
      generalize f m = fm at hu
      generalize f k = fk at hv
      obtain ⟨ux, uy⟩ := fm
      obtain ⟨vx, vy⟩ := fk
      obtain ⟨hu0, cux, cuy⟩ := hu
      obtain ⟨hv0, cvx, cvy⟩ := hv
      simp only at hu0 hv0 cux cuy cvx cvy
      have CR : ∀ W', Below W.heap.size W W' → (W'.cell? ⟨g, m * 2, none⟩ = some (.float .f64 ux) ∧ W'.cell? ⟨g, m * 2 + 1, none⟩ = some (.float .f64 uy)) ∧ (W'.cell? ⟨g, k * 2, none⟩ = some (.float .f64 vx) ∧ W'.cell? ⟨g, k * 2 + 1, none⟩ = some (.float .f64 vy)) := by
        intro W' h
        have hh : Below w.heap.size w W' := hw.trans (h.mono hw.size)
        have hc : ∀ j, W'.cell? ⟨g, j, none⟩ = w.cell? ⟨g, j, none⟩ := fun j => hh.cell (p := ⟨g, j, none⟩) hg
        rw [hc, hc, hc, hc]
        exact ⟨hu0, hv0⟩
      have HE : Hid (edgeOn X n (PX, PY) (preI n k) = liesI PX PY UX UY VX VY) := by unfold Hid; rw [edge_pre hlt, ← hm, ← hXu, ← hXv, lies_on]
      have HC : Hid (cntP X n (PX, PY) (k + 1) = cntP X n (PX, PY) k + if 0 < crsT UX UY VX VY PX PY then 1 else 0) := by unfold Hid; rw [cnt_next hlt, ← hm, ← hXu, ← hXv]
      have hcl := cnt_le X n (PX, PY) k
      have ht : Int.tmod ((k : Int) + n - 1) (n : Int) = (m : Int) := by
        rw [hm, Int.tmod_eq_emod_of_nonneg (by omega)]
        unfold preI
        rw [Int.natCast_emod]
        congr 1
        omega
      have hn0 : ¬ (n : Int) = 0 := by omega
      obtain ⟨o, ho⟩ : ∃ o, o = liesI PX PY UX UY VX VY := ⟨_, rfl⟩
      obtain ⟨s, hs⟩ : ∃ s, s = decide (0 < crsT UX UY VX VY PX PY) := ⟨_, rfl⟩
      have HL : Hid (∀ V, Calls Tryz.prog 60 #[.agg #[.float .f64 px, .float .f64 py], .agg #[.float .f64 ux, .float .f64 uy], .agg #[.float .f64 vx, .float .f64 vy]] V fun e w' => e = .returned (.bool o) ∧ Below V.heap.size V w') := fun V => by rw [ho]; exact lies_cr px py ux uy vx vy _ _ _ _ _ _ V hpx hpy cux cuy cvx cvy
      have HX : Hid (∀ V, Calls Tryz.prog 65 #[.agg #[.float .f64 ux, .float .f64 uy], .agg #[.float .f64 vx, .float .f64 vy], .agg #[.float .f64 px, .float .f64 py]] V fun e w' => e = .returned (.bool s) ∧ Below V.heap.size V w') := fun V => by rw [hs]; exact crosses_cr ux uy vx vy px py _ _ _ _ _ _ V cux cuy cvx cvy hpx hpy
      have HE2 : Hid (edgeOn X n (PX, PY) m = o) := by unfold Hid; rw [ho, hm]; exact HE.out
      have HC2 : Hid (cntP X n (PX, PY) (k + 1) = cntP X n (PX, PY) k + if s = true then 1 else 0) := by unfold Hid; rw [HC.out, hs]; simp
      have HM : Hid (m = preI n k) := hm
      have hr0 := CR wr hbel
      have hp0 := KS wr hbel
      have hgr : g < wr.heap.size := by have := hbel.size; omega
      have hwr : w.heap.size < wr.heap.size := by have := hbel.size; omega
      clear HE HC ho hs hm hXu hXv cux cuy cvx cvy hu0 hv0
      rcases o with _ | _
      · have hno2 : Hid (∀ j, j < k + 1 → edgeOn X n (PX, PY) (preI n j) = false) := fun j hj => by
          by_cases hjk : j = k
          · rw [hjk, ← HM.out]; exact HE2.out
          · exact hno j (by omega)
        rcases s with _ | _
        · have HV : Hid (cntP X n (PX, PY) (k + 1) = cntP X n (PX, PY) k) := by
            have h9 := HC2.out
            unfold Hid
            simpa using h9
          clear HC2 hno
          go_wp2_with (first | (go_at_call 60; go_must (refine (HL.out _).mono ?_; rintro e w1 ⟨rfl, hb1⟩; have hb1' : Below wr.heap.size wr w1 := below_step hb1 (by repeat (with_reducible first | refine below_alloc _ ?_ | exact Below.refl _ _)); have hS1 := KS w1 (below_step hb1' hbel); have hl1 := boxes2 hb1)) | (go_at_call 65; go_must (refine (HX.out _).mono ?_; rintro e w2 ⟨rfl, hb2⟩; have hb2' : Below wr.heap.size wr w2 := below_step hb2 hb1')))
          go_roundw
          case rel => exact ⟨k + 1, by go_num, by rw [HV.out], by omega, hno2.out, below_step hb2' hbel⟩
          case measure => simp [intOf]; omega
        · have HV : Hid (cntP X n (PX, PY) (k + 1) = cntP X n (PX, PY) k + 1) := by
            have h9 := HC2.out
            unfold Hid
            simpa using h9
          clear HC2 hno
          go_wp2_with (first | (go_at_call 60; go_must (refine (HL.out _).mono ?_; rintro e w1 ⟨rfl, hb1⟩; have hb1' : Below wr.heap.size wr w1 := below_step hb1 (by repeat (with_reducible first | refine below_alloc _ ?_ | exact Below.refl _ _)); have hS1 := KS w1 (below_step hb1' hbel); have hl1 := boxes2 hb1)) | (go_at_call 65; go_must (refine (HX.out _).mono ?_; rintro e w2 ⟨rfl, hb2⟩; have hb2' : Below wr.heap.size wr w2 := below_step hb2 hb1')))
          go_roundw
          case rel => exact ⟨k + 1, by go_num, by rw [HV.out]; go_num, by omega, hno2.out, below_step hb2' hbel⟩
          case measure => simp [intOf]; omega
      · go_wp2_with (first | (go_at_call 60; go_must (refine (HL.out _).mono ?_; rintro e w1 ⟨rfl, hb1⟩; have hb1' : Below wr.heap.size wr w1 := below_step hb1 (by repeat (with_reducible first | refine below_alloc _ ?_ | exact Below.refl _ _)))))
        go_ret
        exact ⟨by rw [ins_on hmn HE2.out]; rfl, hw.trans ((below_step hb1' hbel).mono hw.size)⟩
    · have hkn : k = n := by omega
      subst hkn
      have hr := ins_off (edges_all hno)
      rw [← cnt_last] at hr
      by_cases h2 : cntP X k (PX, PY) k % 2 = 1
      · have h3 : Int.tmod (cntP X k (PX, PY) k : Int) 2 = 1 := by rw [Int.tmod_eq_emod_of_nonneg (by omega)]; omega
        rw [if_pos h2] at hr
        have HR : Hid (insV X k (PX, PY) = 1) := hr
        clear h2 hr hno
        go_wp2_with fail
        go_ret
        exact ⟨by rw [HR.out]; rfl, hw.trans (hbel.mono hw.size)⟩
      · have h3 : Int.tmod (cntP X k (PX, PY) k : Int) 2 = 0 := by rw [Int.tmod_eq_emod_of_nonneg (by omega)]; omega
        rw [if_neg h2] at hr
        have HR : Hid (insV X k (PX, PY) = -1) := hr
        clear h2 hr hno
        go_wp2_with fail
        go_ret
        exact ⟨by rw [HR.out]; rfl, hw.trans (hbel.mono hw.size)⟩

end Go.Proofs.YtbjjkfmdkmbcfaaGreat

namespace Go.Proofs.YtbjjkfmdkmbcfaaGreat
open Go.RowKit
open PlRd

attribute [local go_sem ↓] Go.wp_at_zero Go.wp_at_succ

set_option maxHeartbeats 2000000 in
set_option maxRecDepth 100000 in
theorem spots_nil (w : World) :
    Calls Tryz.prog 35 #[.slice none 0 0] w fun e w' => Below w.heap.size w w' ∧ e = .returned (.tuple #[.slice (some ⟨w.heap.size, 0, none⟩) 0 0, .int .i64 0]) ∧ w.heap.size < w'.heap.size := by
  obtain ⟨i0, hi, hz0, hz1, hz2⟩ := info_parts info76
  go_enter Tryz.func35, Tryz.ntmps35
  go_wp2_with (at_make; refine wpList_make_own _ rfl _ _ 70 rfl w.heap.size 76 i0 _ 2 Tryz.underlying70 hi hz0 hz1 _ _ _ 0 rfl rfl (by omega) (by rw [hz2]; omega) (by unfold maxLen; omega) (Nat.le_refl _) ?_; intro w0 hown0 hgrow0)
  have hb : Below w.heap.size w w0 := (Below.refl _ _).grown hgrow0 (Nat.le_refl _) (fun k h => by cases h)
  have hl : w.heap.size < w0.heap.size := (hown0.lt w.heap.size rfl).2
  go_wp2
  refine wp_loop_rounds 1 ?_
  rw [rounds_succ]
  go_wp2
  go_ret2
  exact ⟨hb, rfl, hl⟩

/-- The points' slice: nil, or its cells. -/
def SlAt (w : World) (v : Value) (n : Nat) (ps : List (Nat × Nat)) : Prop := (v = .slice none 0 0 ∧ n = 0) ∨ ∃ g c, v = .slice (some ⟨g, 0, none⟩) n c ∧ g < w.heap.size ∧ PtsAt w g 0 ps

theorem SlAt.kept {w w' : World} {v : Value} {n : Nat} {ps : List (Nat × Nat)} (h : SlAt w v n ps) (hb : Below w.heap.size w w') : SlAt w' v n ps := by
  rcases h with h | ⟨g, c, rfl, hg, hp⟩
  · exact .inl h
  · refine .inr ⟨g, c, rfl, Nat.lt_of_lt_of_le hg hb.size, fun t ht => ?_⟩
    obtain ⟨hc, _⟩ := bcell hb
    rw [hc _ _ hg, hc _ _ hg]
    exact hp t ht

/-- Spots that lie in memory. -/
def SpRow (w : World) (G : Nat) (ps : List (Nat × Nat)) : Prop := G < w.heap.size ∧ ∀ t, t < ps.length → w.cell? ⟨G, t * 2, none⟩ = some (.float .f64 (ps.getD t (0, 0)).1) ∧ w.cell? ⟨G, t * 2 + 1, none⟩ = some (.float .f64 (ps.getD t (0, 0)).2)

theorem SpRow.kept {w w' : World} {G : Nat} {ps : List (Nat × Nat)} (h : SpRow w G ps) (hb : Below w.heap.size w w') : SpRow w' G ps := by
  obtain ⟨hc, _⟩ := bcell hb
  refine ⟨Nat.lt_of_lt_of_le h.1 hb.size, fun t ht => ?_⟩
  rw [hc _ _ h.1, hc _ _ h.1]
  exact h.2 t ht

theorem spotCells_at (ps : List (Nat × Nat)) : ∀ t, t < ps.length → (spotCells ps)[t * 2]? = some (.float .f64 (ps.getD t (0, 0)).1) ∧ (spotCells ps)[t * 2 + 1]? = some (.float .f64 (ps.getD t (0, 0)).2) := by
  induction ps with
  | nil => intro t ht; simp at ht
  | cons p ps ih =>
    intro t ht
    have e : spotCells (p :: ps) = .float .f64 p.1 :: .float .f64 p.2 :: spotCells ps := by simp [spotCells]
    rw [e]
    cases t with
    | zero => simp
    | succ t =>
      have h := ih t (by simpa using ht)
      rw [show (t + 1) * 2 = t * 2 + 1 + 1 by omega]
      simpa using h

theorem spotCells_length (ps : List (Nat × Nat)) : (spotCells ps).length = ps.length * 2 := by
  induction ps with
  | nil => rfl
  | cons p ps ih => simp [spotCells] at ih ⊢; omega

theorem spots_gen (v : Value) (n : Nat) (ps : List (Nat × Nat)) (w : World) (hv : SlAt w v n ps) (hn : ps.length = n) (hnm : n ≤ 100000) (h64 : ∀ p ∈ ps, p.1 < 2 ^ 64 ∧ p.2 < 2 ^ 64) :
    Calls Tryz.prog 35 #[v] w fun e w' => Below w.heap.size w w' ∧ ((okPts ps = true ∧ ∃ G, e = .returned (.tuple #[.slice (some ⟨G, 0, none⟩) n n, .int .i64 0]) ∧ SpRow w' G ps) ∨ (okPts ps = false ∧ e = .returned (.tuple #[.slice none 0 0, .int .i64 1]))) := by
  rcases hv with ⟨rfl, rfl⟩ | ⟨g, c, rfl, hg, hp⟩
  · have hps : ps = [] := List.eq_nil_of_length_eq_zero hn
    subst hps
    refine (spots_nil w).mono ?_
    rintro e w' ⟨hb, rfl, hl⟩
    exact ⟨hb, .inl ⟨rfl, w.heap.size, rfl, hl, fun t ht => by simp at ht⟩⟩
  · refine (spots_walk g n c ps w hn hnm hg hp h64).mono ?_
    rintro e w' ⟨hb, ⟨hok, rfl, hown⟩ | ⟨hok, rfl⟩⟩
    · refine ⟨hb, .inl ⟨hok, w.heap.size, rfl, (hown.lt _ rfl).2, fun t ht => ?_⟩⟩
      have hl := spotCells_length ps
      have h2 := spotCells_at ps t ht
      exact ⟨(hown.cellAt (t * 2) (by omega)).trans h2.1, (hown.cellAt (t * 2 + 1) (by omega)).trans h2.2⟩
    · exact ⟨hb, .inr ⟨hok, rfl⟩⟩

theorem spots_yes (v : Value) (n : Nat) (ps : List (Nat × Nat)) (w : World) (hv : SlAt w v n ps) (hn : ps.length = n) (hnm : n ≤ 100000) (h64 : ∀ p ∈ ps, p.1 < 2 ^ 64 ∧ p.2 < 2 ^ 64) (hok : okPts ps = true) :
    Calls Tryz.prog 35 #[v] w fun e w' => Below w.heap.size w w' ∧ ∃ G, e = .returned (.tuple #[.slice (some ⟨G, 0, none⟩) n n, .int .i64 0]) ∧ SpRow w' G ps := by
  refine (spots_gen v n ps w hv hn hnm h64).mono ?_
  rintro e w' ⟨hb, ⟨_, h⟩ | ⟨h, _⟩⟩
  · exact ⟨hb, h⟩
  · rw [hok] at h; cases h

theorem spots_no (v : Value) (n : Nat) (ps : List (Nat × Nat)) (w : World) (hv : SlAt w v n ps) (hn : ps.length = n) (hnm : n ≤ 100000) (h64 : ∀ p ∈ ps, p.1 < 2 ^ 64 ∧ p.2 < 2 ^ 64) (hok : okPts ps = false) :
    Calls Tryz.prog 35 #[v] w fun e w' => Below w.heap.size w w' ∧ e = .returned (.tuple #[.slice none 0 0, .int .i64 1]) := by
  refine (spots_gen v n ps w hv hn hnm h64).mono ?_
  rintro e w' ⟨hb, ⟨h, _⟩ | ⟨_, h⟩⟩
  · rw [hok] at h; cases h
  · exact ⟨hb, h⟩

/-- The polygon's corners in the document's units. -/
def crdX (ps : List (Nat × Nat)) (i : Nat) : Int × Int := (crd (ps.getD i (0, 0)).1, crd (ps.getD i (0, 0)).2)

theorem ok_at {ps : List (Nat × Nat)} (h : okPts ps = true) (i : Nat) (hi : i < ps.length) : mayB (ps.getD i (0, 0)).1 = true ∧ mayB (ps.getD i (0, 0)).2 = true := by
  have h1 := List.all_eq_true.1 h (ps.getD i (0, 0)) (by rw [List.getD_eq_getElem?_getD, List.getElem?_eq_getElem hi]; exact List.getElem_mem _)
  simpa using h1

theorem SlAt.form {w : World} {v : Value} {n : Nat} {ps : List (Nat × Nat)} (h : SlAt w v n ps) : ∃ o c, v = .slice o n c := by
  rcases h with ⟨rfl, rfl⟩ | ⟨g, c, rfl, _⟩
  · exact ⟨_, _, rfl⟩
  · exact ⟨_, _, rfl⟩

theorem sl_one {w : World} {x y : Nat} {b : Nat} {t : TypeId} (hb : b = w.heap.size) : SlAt (w.alloc (.cells #[.int .u64 x, .int .u64 y] t)) (.slice (some ⟨b, 0, none⟩) 1 1) 1 [(x, y)] := by
  subst hb
  refine .inr ⟨_, _, rfl, by simp, fun t ht => ?_⟩
  match t, ht with
  | 0, _ => exact ⟨by simp [go_sem], by simp [go_sem]⟩

theorem ptbox {w W : World} {a b : Value} {t : TypeId} (hb : Below (w.alloc (.cells #[a, b] t)).heap.size (w.alloc (.cells #[a, b] t)) W) : W.cell? ⟨w.heap.size, 0, none⟩ = some a ∧ W.cell? ⟨w.heap.size, 1, none⟩ = some b := by
  obtain ⟨hc, _⟩ := bcell hb
  rw [hc _ _ (by simp), hc _ _ (by simp)]
  simp [go_sem]

set_option maxHeartbeats 1000000 in
theorem insideE_many (o : Option Addr) (n c px py : Nat) (w : World) (hn : 100 < n) (h63 : n < 9223372036854775808) :
    Calls Tryz.prog 28 #[.slice o n c, .agg #[.int .u64 px, .int .u64 py]] w fun e w' => Below w.heap.size w w' ∧ e = .returned (.tuple #[.int .i64 0, .int .i64 2]) := by
  go_enter Tryz.func28, Tryz.ntmps28
  go_wp2
  go_ret2
  exact ⟨(Below.refl _ w).alloc (Nat.le_refl _) _, rfl⟩

set_option maxHeartbeats 4000000 in
set_option maxRecDepth 100000 in
theorem insideE_no1 (v : Value) (n : Nat) (ps : List (Nat × Nat)) (px py : Nat) (w : World) (hv : SlAt w v n ps) (hn : ps.length = n) (hnm : n ≤ 100) (h64 : ∀ p ∈ ps, p.1 < 2 ^ 64 ∧ p.2 < 2 ^ 64) (hok : okPts ps = false) :
    Calls Tryz.prog 28 #[v, .agg #[.int .u64 px, .int .u64 py]] w fun e w' => Below w.heap.size w w' ∧ e = .returned (.tuple #[.int .i64 0, .int .i64 1]) := by
  have hvk : ∀ o : Obj, SlAt (w.alloc o) v n ps := fun o => hv.kept ((Below.refl _ w).alloc (Nat.le_refl _) o)
  obtain ⟨o, c, rfl⟩ := hv.form
  clear hv
  go_enter Tryz.func28, Tryz.ntmps28
  go_wp2_with (first | (go_at_call 35; go_must (refine (spots_no _ n ps _ (hvk _) hn (by omega) h64 hok).mono ?_; rintro e w1 ⟨hb1, rfl⟩)))
  go_ret2
  exact ⟨below_step hb1 ((Below.refl _ w).alloc (Nat.le_refl _) _), rfl⟩

set_option maxHeartbeats 4000000 in
set_option maxRecDepth 100000 in
theorem insideE_no2 (v : Value) (n : Nat) (ps : List (Nat × Nat)) (px py : Nat) (w : World) (hv : SlAt w v n ps) (hn : ps.length = n) (hnm : n ≤ 100) (h64 : ∀ p ∈ ps, p.1 < 2 ^ 64 ∧ p.2 < 2 ^ 64) (hok : okPts ps = true) (hp64 : ∀ p ∈ [(px, py)], p.1 < 2 ^ 64 ∧ p.2 < 2 ^ 64) (hpk : okPts [(px, py)] = false) :
    Calls Tryz.prog 28 #[v, .agg #[.int .u64 px, .int .u64 py]] w fun e w' => Below w.heap.size w w' ∧ e = .returned (.tuple #[.int .i64 0, .int .i64 1]) := by
  have hvk : ∀ o : Obj, SlAt (w.alloc o) v n ps := fun o => hv.kept ((Below.refl _ w).alloc (Nat.le_refl _) o)
  obtain ⟨o, c, rfl⟩ := hv.form
  clear hv
  go_enter Tryz.func28, Tryz.ntmps28
  go_wp2_with (first | (go_at_call 35; have g1 := hb1; go_must (refine (spots_no _ 1 [(px, py)] _ (sl_one (by simp)) rfl (by omega) hp64 hpk).mono ?_; rintro e w2 ⟨hb2, rfl⟩)) | (go_at_call 35; go_must (refine (spots_yes _ n ps _ (hvk _) hn (by omega) h64 hok).mono ?_; rintro e w1 ⟨hb1, G, rfl, hrow⟩; have hbx := ptbox hb1)))
  go_ret2
  have h1 := below_step hb1 ((Below.refl _ w).alloc (Nat.le_refl _) _)
  exact ⟨below_step hb2 (h1.alloc h1.size _), rfl⟩

set_option maxHeartbeats 4000000 in
set_option maxRecDepth 100000 in
theorem insideE_ok (v : Value) (n : Nat) (ps : List (Nat × Nat)) (px py : Nat) (w : World) (hv : SlAt w v n ps) (hn : ps.length = n) (hnm : n ≤ 100) (h64 : ∀ p ∈ ps, p.1 < 2 ^ 64 ∧ p.2 < 2 ^ 64) (hok : okPts ps = true) (hp64 : ∀ p ∈ [(px, py)], p.1 < 2 ^ 64 ∧ p.2 < 2 ^ 64) (hpk : okPts [(px, py)] = true) :
    Calls Tryz.prog 28 #[v, .agg #[.int .u64 px, .int .u64 py]] w fun e w' => Below w.heap.size w w' ∧ e = .returned (.tuple #[.int .i64 (insV (crdX ps) n (crd px, crd py)), .int .i64 0]) := by
  have hvk : ∀ o : Obj, SlAt (w.alloc o) v n ps := fun o => hv.kept ((Below.refl _ w).alloc (Nat.le_refl _) o)
  obtain ⟨o, c, rfl⟩ := hv.form
  have hm : mayB px = true ∧ mayB py = true := by simpa [okPts] using hpk
  have HI : Hid (∀ (V : World) (G : Nat), SpRow V G ps → Calls Tryz.prog 48 #[.slice (some ⟨G, 0, none⟩) n n, .agg #[.float .f64 px, .float .f64 py]] V fun e w' => e = .returned (.int .i64 (insV (crdX ps) n (crd px, crd py))) ∧ Below V.heap.size V w') := fun V G hr =>
    inside_cr G n n (fun i => ps.getD i (0, 0)) (crdX ps) px py (crd px) (crd py) V (by omega) hr.1 (fun i hi => ⟨hr.2 i (by omega), cr_mayB (ok_at hok i (by omega)).1, cr_mayB (ok_at hok i (by omega)).2⟩) (cr_mayB hm.1) (cr_mayB hm.2)
  clear hv hm
  go_enter Tryz.func28, Tryz.ntmps28
  go_wp2_with (first | (go_at_call 35; have g1 := hb1; go_must (refine (spots_yes _ 1 [(px, py)] _ (sl_one (by simp)) rfl (by omega) hp64 hpk).mono ?_; rintro e w2 ⟨hb2, G2, rfl, hrow2⟩; have hbb : Below w1.heap.size w1 w2 := below_step hb2 ((Below.refl _ _).alloc (Nat.le_refl _) _); have hc2 := hrow2.2 0 (Nat.zero_lt_one); have hr1 := hrow.kept hbb; simp at hc2)) | (go_at_call 35; go_must (refine (spots_yes _ n ps _ (hvk _) hn (by omega) h64 hok).mono ?_; rintro e w1 ⟨hb1, G, rfl, hrow⟩; have hbx := ptbox hb1)) | (go_at_call 48; go_must (refine (HI.out _ _ hr1).mono ?_; rintro e w3 ⟨rfl, hb3⟩)))
  go_ret2
  have h1 := below_step hb1 ((Below.refl _ w).alloc (Nat.le_refl _) _)
  exact ⟨below_step hb3 (below_step hb2 (h1.alloc h1.size _)), rfl⟩

end Go.Proofs.YtbjjkfmdkmbcfaaGreat

namespace Go.Proofs.YtbjjkfmdkmbcfaaGreat
open Go.RowKit
open PlLv

theorem lt_unscale {n a b c : Nat} (hc : c = a + b) (h : n * 2 ^ b < 2 ^ c) : n < 2 ^ a := by
  rw [hc, Nat.pow_add] at h
  exact Nat.lt_of_mul_lt_mul_right h

theorem crd_lt {b : Nat} (h : mayB b = true) : (crd b).natAbs < 2 ^ 200 := by
  obtain ⟨X, h1, _, h3⟩ := co_of_mayB h
  have h4 := valB_crd h
  rw [is_valB h1] at h4
  rw [h4, Int.natAbs_mul, PlRd.natAbs_two_pow] at h3
  exact lt_unscale (a := 200) (b := 974) (c := 1174) rfl h3

theorem scale_prod (a b c d E : Int) : (a * E - b * E) * (c * E - d * E) = (a - b) * (c - d) * (E * E) := by
  rw [← Int.sub_mul, ← Int.sub_mul, mul4]

theorem EE_pos : (0 : Int) < 2 ^ 974 * 2 ^ 974 := Int.mul_pos (PlRd.two_pow_pos 974) (PlRd.two_pow_pos 974)

/-- The turn, of the coordinates in the document's units. -/
theorem turn_crd {ax ay bx by' cx cy : Nat} (hok : okPts [(ax, ay), (bx, by'), (cx, cy)] = true) :
    PlRd.sgn (turnV (ax, ay) (bx, by') (cx, cy)) = PlRd.sgn ((crd bx - crd ax) * (crd cy - crd ay) - (crd by' - crd ay) * (crd cx - crd ax)) := by
  have hm : (mayB ax = true ∧ mayB ay = true) ∧ (mayB bx = true ∧ mayB by' = true) ∧ (mayB cx = true ∧ mayB cy = true) := by simpa [okPts] using hok
  unfold turnV
  simp only
  rw [valB_crd hm.1.1, valB_crd hm.1.2, valB_crd hm.2.1.1, valB_crd hm.2.1.2, valB_crd hm.2.2.1, valB_crd hm.2.2.2, scale_prod, scale_prod, ← Int.sub_mul, sgn_mul _ _ EE_pos]

theorem dist_crd {ax ay bx by' cx cy : Nat} (hok : okPts [(ax, ay), (bx, by'), (cx, cy)] = true) :
    PlRd.sgn (distV (ax, ay) (cx, cy) - distV (ax, ay) (bx, by')) = PlRd.sgn (((crd cx - crd ax) * (crd cx - crd ax) + (crd cy - crd ay) * (crd cy - crd ay)) - ((crd bx - crd ax) * (crd bx - crd ax) + (crd by' - crd ay) * (crd by' - crd ay))) := by
  have hm : (mayB ax = true ∧ mayB ay = true) ∧ (mayB bx = true ∧ mayB by' = true) ∧ (mayB cx = true ∧ mayB cy = true) := by simpa [okPts] using hok
  unfold distV
  simp only
  rw [valB_crd hm.1.1, valB_crd hm.1.2, valB_crd hm.2.1.1, valB_crd hm.2.1.2, valB_crd hm.2.2.1, valB_crd hm.2.2.2, scale_prod, scale_prod, scale_prod, scale_prod, ← Int.add_mul, ← Int.add_mul, ← Int.sub_mul, sgn_mul _ _ EE_pos]

set_option maxHeartbeats 400000 in
theorem num_any (e : Int) (w : World) : Calls Tryz.prog 20 #[.int .i64 e] w fun r w' => r = .returned (.int .i64 e) ∧ w' = w := by
  go_enter Tryz.func20, Tryz.ntmps20
  go_wp2
  go_ret
  exact ⟨rfl, rfl⟩

/-- Three points as the reference has them. -/
theorem points3_no (g ax ay bx by' cx cy : Nat) (w : World) (h64 : ∀ p ∈ [(ax, ay), (bx, by'), (cx, cy)], p.1 < 2 ^ 64 ∧ p.2 < 2 ^ 64) (h0 : w.cell? ⟨g, 0, none⟩ = some (.int .u64 ax)) (h1 : w.cell? ⟨g, 1, none⟩ = some (.int .u64 ay)) (h2 : w.cell? ⟨g, 2, none⟩ = some (.int .u64 bx)) (h3 : w.cell? ⟨g, 3, none⟩ = some (.int .u64 by')) (h4 : w.cell? ⟨g, 4, none⟩ = some (.int .u64 cx)) (h5 : w.cell? ⟨g, 5, none⟩ = some (.int .u64 cy)) (hg : g < w.heap.size) (hok : okPts [(ax, ay), (bx, by'), (cx, cy)] = false) :
    Calls Tryz.prog 15 #[.slice (some ⟨g, 0, none⟩) 3 3] w fun e w' => Below w.heap.size w w' ∧ e = .returned (.tuple #[.slice none 0 0, .bool false]) := by
  refine (points_walk g 3 3 [(ax, ay), (bx, by'), (cx, cy)] w rfl (by decide) hg (pts3 h0 h1 h2 h3 h4 h5) h64).mono ?_
  rintro e w' ⟨hb, ⟨h1, _⟩ | ⟨_, rfl⟩⟩
  · rw [hok] at h1; cases h1
  · exact ⟨hb, rfl⟩

theorem own12 {w : World} {b : Nat} {v : Value} {xs : List Value} (h : w.ownsRow b 55 4 v 3 xs) : ∃ g c, v = .slice (some ⟨g, 0, none⟩) 3 c ∧ g < w.heap.size ∧ ∀ j, j < 12 → w.cell? ⟨g, j, none⟩ = xs[j]? := by
  have h0 := h
  rcases h.2 with ⟨_, hn⟩ | ⟨g, c, cur, rfl, _, hg, _⟩
  · cases hn
  · exact ⟨g, c, rfl, lt_of_row hg, fun j hj => h0.cellAt j (by omega)⟩

structure Q3 (w : World) (g : Nat) (a b c : PB) : Prop where
  lt : g < w.heap.size
  c0 : w.cell? ⟨g, 0, none⟩ = some (.bool a.nx) ∧ w.cell? ⟨g, 1, none⟩ = some a.vx ∧ w.cell? ⟨g, 2, none⟩ = some (.bool a.ny) ∧ w.cell? ⟨g, 3, none⟩ = some a.vy
  c1 : w.cell? ⟨g, 4, none⟩ = some (.bool b.nx) ∧ w.cell? ⟨g, 5, none⟩ = some b.vx ∧ w.cell? ⟨g, 6, none⟩ = some (.bool b.ny) ∧ w.cell? ⟨g, 7, none⟩ = some b.vy
  c2 : w.cell? ⟨g, 8, none⟩ = some (.bool c.nx) ∧ w.cell? ⟨g, 9, none⟩ = some c.vx ∧ w.cell? ⟨g, 10, none⟩ = some (.bool c.ny) ∧ w.cell? ⟨g, 11, none⟩ = some c.vy

theorem Q3.kept {w w' : World} {g : Nat} {a b c : PB} (h : Q3 w g a b c) (hb : Below w.heap.size w w') : Q3 w' g a b c := by
  have hc : ∀ j, w'.cell? ⟨g, j, none⟩ = w.cell? ⟨g, j, none⟩ := fun j => hb.cell (p := ⟨g, j, none⟩) h.lt
  refine ⟨Nat.lt_of_lt_of_le h.lt hb.size, ?_, ?_, ?_⟩
  · rw [hc, hc, hc, hc]; exact h.c0
  · rw [hc, hc, hc, hc]; exact h.c1
  · rw [hc, hc, hc, hc]; exact h.c2

theorem points3_ok (g ax ay bx by' cx cy : Nat) (w : World) (h64 : ∀ p ∈ [(ax, ay), (bx, by'), (cx, cy)], p.1 < 2 ^ 64 ∧ p.2 < 2 ^ 64) (h0 : w.cell? ⟨g, 0, none⟩ = some (.int .u64 ax)) (h1 : w.cell? ⟨g, 1, none⟩ = some (.int .u64 ay)) (h2 : w.cell? ⟨g, 2, none⟩ = some (.int .u64 bx)) (h3 : w.cell? ⟨g, 3, none⟩ = some (.int .u64 by')) (h4 : w.cell? ⟨g, 4, none⟩ = some (.int .u64 cx)) (h5 : w.cell? ⟨g, 5, none⟩ = some (.int .u64 cy)) (hg : g < w.heap.size) (hok : okPts [(ax, ay), (bx, by'), (cx, cy)] = true) :
    Calls Tryz.prog 15 #[.slice (some ⟨g, 0, none⟩) 3 3] w fun e w' => Below w.heap.size w w' ∧ ∃ (g' c' : Nat) (a b c : PB), e = .returned (.tuple #[.slice (some ⟨g', 0, none⟩) 3 c', .bool true]) ∧ Q3 w' g' a b c ∧ PBs w' a (ax, ay) ∧ PBs w' b (bx, by') ∧ PBs w' c (cx, cy) := by
  refine (points_walk g 3 3 [(ax, ay), (bx, by'), (cx, cy)] w rfl (by decide) hg (pts3 h0 h1 h2 h3 h4 h5) h64).mono ?_
  rintro e w' ⟨hb, ⟨_, v, qs, rfl, hown, hp⟩ | ⟨h1, _⟩⟩
  · have hl := hp.length
    match qs, hl, hp, hown with
    | [a, b, c], _, hp, hown =>
      obtain ⟨g', c', rfl, hlt, hc⟩ := own12 hown
      refine ⟨hb, g', c', a, b, c, rfl, ⟨hlt, ⟨hc 0 (by decide), hc 1 (by decide), hc 2 (by decide), hc 3 (by decide)⟩, ⟨hc 4 (by decide), hc 5 (by decide), hc 6 (by decide), hc 7 (by decide)⟩, ⟨hc 8 (by decide), hc 9 (by decide), hc 10 (by decide), hc 11 (by decide)⟩⟩, hp.1, hp.2.1, hp.2.2.1⟩
  · rw [hok] at h1; cases h1

end Go.Proofs.YtbjjkfmdkmbcfaaGreat
