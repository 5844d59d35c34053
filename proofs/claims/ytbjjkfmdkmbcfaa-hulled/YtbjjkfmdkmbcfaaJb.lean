import Derived.Test.YtbjjkfmdkmbcfaaJa
namespace Go.Proofs.Ytbjjkfmdkmbcfaa
open Go.RowKit
open PlRd

attribute [local go_sem ↓] Go.wp_at_zero Go.wp_at_succ

/-- The corner ahead of corner j. -/
def preI (n j : Nat) : Nat := (j + n - 1) % n

theorem preI_zero {n : Nat} (h : 0 < n) : preI n 0 = n - 1 := by unfold preI; rw [Nat.zero_add]; exact Nat.mod_eq_of_lt (by omega)
theorem preI_succ {n m : Nat} (h : m < n) : preI n (m + 1) = m := by
  unfold preI
  rw [show m + 1 + n - 1 = m + n by omega, Nat.add_mod_right]
  exact Nat.mod_eq_of_lt h
theorem preI_lt {n : Nat} (j : Nat) (h : 0 < n) : preI n j < n := Nat.mod_lt _ h
theorem preI_next {n k : Nat} (h : k < n) : (preI n k + 1) % n = k := by
  cases k with
  | zero => rw [preI_zero h, show n - 1 + 1 = n by omega, Nat.mod_self]
  | succ m => rw [preI_succ (by omega)]; exact Nat.mod_eq_of_lt h

/-- How many of the first k edges, from the one that ends at corner 0 on, cross the half-line. -/
def cntP (X : Nat → Int × Int) (n : Nat) (p : Int × Int) : Nat → Nat
  | 0 => 0
  | k + 1 => (if 0 < crsT (X (n - 1)).1 (X (n - 1)).2 (X 0).1 (X 0).2 p.1 p.2 then 1 else 0) + crsN X n p k

theorem cnt_next {X : Nat → Int × Int} {n k : Nat} {p : Int × Int} (h : k < n) : cntP X n p (k + 1) = cntP X n p k + if 0 < crsT (X (preI n k)).1 (X (preI n k)).2 (X k).1 (X k).2 p.1 p.2 then 1 else 0 := by
  cases k with
  | zero => rw [preI_zero h]; show _ + crsN X n p 0 = 0 + _; rw [show crsN X n p 0 = 0 from rfl]; omega
  | succ m =>
    show _ + crsN X n p (m + 1) = _ + crsN X n p m + _
    rw [preI_succ (by omega), crsN, Nat.mod_eq_of_lt h]
    omega

theorem cnt_last {X : Nat → Int × Int} {n : Nat} {p : Int × Int} : cntP X n p n = crsN X n p n := by
  cases n with
  | zero => rfl
  | succ m =>
    show _ + crsN X (m + 1) p m = crsN X (m + 1) p (m + 1)
    rw [crsN, Nat.mod_self, show m + 1 - 1 = m by omega]
    omega

theorem cnt_le (X : Nat → Int × Int) (n : Nat) (p : Int × Int) (k : Nat) : cntP X n p k ≤ k := by
  cases k with
  | zero => exact Nat.le_refl _
  | succ m =>
    have := crsN_le X n p m
    show _ + crsN X n p m ≤ _
    split <;> omega

theorem edge_pre {X : Nat → Int × Int} {n k : Nat} {p : Int × Int} (h : k < n) : edgeOn X n p (preI n k) = onP (X (preI n k)).1 (X (preI n k)).2 (X k).1 (X k).2 p.1 p.2 := by
  unfold edgeOn
  rw [preI_next h]

theorem edges_all {X : Nat → Int × Int} {n : Nat} {p : Int × Int} (h : ∀ j, j < n → edgeOn X n p (preI n j) = false) : ∀ j, j < n → edgeOn X n p j = false := by
  intro j hj
  by_cases h1 : j + 1 < n
  · have := h (j + 1) h1
    rwa [preI_succ hj] at this
  · have := h 0 (by omega)
    rwa [preI_zero (by omega), show n - 1 = j by omega] at this

theorem boxes2 {w W : World} {a b c d : Value} {t : TypeId} (hb : Below ((w.alloc (.cells #[a, b] t)).alloc (.cells #[c, d] t)).heap.size ((w.alloc (.cells #[a, b] t)).alloc (.cells #[c, d] t)) W) : W.cell? ⟨w.heap.size, 0, none⟩ = some a ∧ W.cell? ⟨w.heap.size, 1, none⟩ = some b ∧ W.cell? ⟨w.heap.size + 1, 0, none⟩ = some c ∧ W.cell? ⟨w.heap.size + 1, 1, none⟩ = some d := by
  obtain ⟨hc, _⟩ := bcell hb
  rw [hc _ _ (by simp <;> omega), hc _ _ (by simp <;> omega), hc _ _ (by simp <;> omega), hc _ _ (by simp <;> omega)]
  simp [go_sem]

set_option maxHeartbeats 8000000 in
set_option maxRecDepth 100000 in
theorem inside_cr (g n c : Nat) (f : Nat → Nat × Nat) (X : Nat → Int × Int) (px py : Nat) (PX PY : Int) (w : World) (hn : n ≤ 100000) (hg : g < w.heap.size)
    (H : ∀ i, i < n → (w.cell? ⟨g, i * 2, none⟩ = some (.float .f64 (f i).1) ∧ w.cell? ⟨g, i * 2 + 1, none⟩ = some (.float .f64 (f i).2)) ∧ Cr (f i).1 (X i).1 ∧ Cr (f i).2 (X i).2) (hpx : Cr px PX) (hpy : Cr py PY) :
    Calls Try.prog 35 #[.slice (some ⟨g, 0, none⟩) n c, .agg #[.float .f64 px, .float .f64 py]] w fun e w' => e = .returned (.int .i64 (insV X n (PX, PY))) ∧ Below w.heap.size w w' := by
  go_enter Try.func35, Try.ntmps35
  go_upto_region 1 with fail
  generalize hW : World.alloc w _ = W
  have hWs : W.heap.size = w.heap.size + 1 := by subst hW; simp
  have hw : Below w.heap.size w W := by subst hW; exact (Below.refl _ _).alloc (Nat.le_refl _) _
  have KS : ∀ w', Below W.heap.size W w' → (w'.cell? ⟨w.heap.size, 0, none⟩ = some (.float .f64 px) ∧ w'.cell? ⟨w.heap.size, 1, none⟩ = some (.float .f64 py)) := by
    intro w' hb
    obtain ⟨hc, _⟩ := bcell hb
    refine ⟨?_, ?_⟩
    all_goals (rw [hc _ _ (by omega)]; subst hW; simp [go_sem])
  have hwl : w.heap.size < W.heap.size := by omega
  clear hW hWs
  go_wp2
  go_loopw [5, 11] (fun sn si wr => ∃ k : Nat, si = .int .i64 k ∧ sn = .int .i64 (cntP X n (PX, PY) k) ∧ k ≤ n ∧ (∀ j, j < k → edgeOn X n (PX, PY) (preI n j) = false) ∧ Below W.heap.size W wr) (fun _ si _ => n - (intOf si).toNat)
  case atStart => exact ⟨0, rfl, rfl, Nat.zero_le _, fun j hj => absurd hj (Nat.not_lt_zero _), Below.refl _ _⟩
  case round =>
    obtain ⟨k, rfl, rfl, hk, hno, hbel⟩ := hrel
    by_cases hlt : k < n
    · obtain ⟨m, hm⟩ : ∃ m, m = preI n k := ⟨_, rfl⟩
      have hmn : m < n := hm ▸ preI_lt k (by omega)
      obtain ⟨⟨UX, UY⟩, hXu⟩ : ∃ x, x = X m := ⟨_, rfl⟩
      obtain ⟨⟨VX, VY⟩, hXv⟩ : ∃ x, x = X k := ⟨_, rfl⟩
      have hu := H m hmn
      have hv := H k hlt
      rw [← hXu] at hu
      rw [← hXv] at hv
      generalize f m = fm at hu
      generalize f k = fk at hv
      obtain ⟨ux, uy⟩ := fm
      obtain ⟨vx, vy⟩ := fk
      obtain ⟨hu0, cux, cuy⟩ := hu
      obtain ⟨hv0, cvx, cvy⟩ := hv
      simp only at hu0 hv0 cux cuy cvx cvy
      have CR : ∀ W', Below W.heap.size W W' → (W'.cell? ⟨g, m * 2, none⟩ = some (.float .f64 ux) ∧ W'.cell? ⟨g, m * 2 + 1, none⟩ = some (.float .f64 uy)) ∧ (W'.cell? ⟨g, k * 2, none⟩ = some (.float .f64 vx) ∧ W'.cell? ⟨g, k * 2 + 1, none⟩ = some (.float .f64 vy)) := by
        intro W' h
        have hh : Below w.heap.size w W' := hw.trans (h.mono hw.size)
        have hc : ∀ j, W'.cell? ⟨g, j, none⟩ = w.cell? ⟨g, j, none⟩ := fun j => hh.cell (p := ⟨g, j, none⟩) hg
        rw [hc, hc, hc, hc]
        exact ⟨hu0, hv0⟩
      have HE : Hid (edgeOn X n (PX, PY) (preI n k) = liesI PX PY UX UY VX VY) := by unfold Hid; rw [edge_pre hlt, ← hm, ← hXu, ← hXv, lies_on]
      have HC : Hid (cntP X n (PX, PY) (k + 1) = cntP X n (PX, PY) k + if 0 < crsT UX UY VX VY PX PY then 1 else 0) := by unfold Hid; rw [cnt_next hlt, ← hm, ← hXu, ← hXv]
      have hcl := cnt_le X n (PX, PY) k
      have ht : Int.tmod ((k : Int) + n - 1) (n : Int) = (m : Int) := by
        rw [hm, Int.tmod_eq_emod_of_nonneg (by omega)]
        unfold preI
        rw [Int.natCast_emod]
        congr 1
        omega
      have hn0 : ¬ (n : Int) = 0 := by omega
      obtain ⟨o, ho⟩ : ∃ o, o = liesI PX PY UX UY VX VY := ⟨_, rfl⟩
      obtain ⟨s, hs⟩ : ∃ s, s = decide (0 < crsT UX UY VX VY PX PY) := ⟨_, rfl⟩
      have HL : Hid (∀ V, Calls Try.prog 43 #[.agg #[.float .f64 px, .float .f64 py], .agg #[.float .f64 ux, .float .f64 uy], .agg #[.float .f64 vx, .float .f64 vy]] V fun e w' => e = .returned (.bool o) ∧ Below V.heap.size V w') := fun V => by rw [ho]; exact lies_cr px py ux uy vx vy _ _ _ _ _ _ V hpx hpy cux cuy cvx cvy
      have HX : Hid (∀ V, Calls Try.prog 48 #[.agg #[.float .f64 ux, .float .f64 uy], .agg #[.float .f64 vx, .float .f64 vy], .agg #[.float .f64 px, .float .f64 py]] V fun e w' => e = .returned (.bool s) ∧ Below V.heap.size V w') := fun V => by rw [hs]; exact crosses_cr ux uy vx vy px py _ _ _ _ _ _ V cux cuy cvx cvy hpx hpy
      have HE2 : Hid (edgeOn X n (PX, PY) m = o) := by unfold Hid; rw [ho, hm]; exact HE.out
      have HC2 : Hid (cntP X n (PX, PY) (k + 1) = cntP X n (PX, PY) k + if s = true then 1 else 0) := by unfold Hid; rw [HC.out, hs]; simp
      have HM : Hid (m = preI n k) := hm
      have hr0 := CR wr hbel
      have hp0 := KS wr hbel
      have hgr : g < wr.heap.size := by have := hbel.size; omega
      have hwr : w.heap.size < wr.heap.size := by have := hbel.size; omega
      clear HE HC ho hs hm hXu hXv cux cuy cvx cvy hu0 hv0
      rcases o with _ | _
      · have hno2 : Hid (∀ j, j < k + 1 → edgeOn X n (PX, PY) (preI n j) = false) := fun j hj => by
          by_cases hjk : j = k
          · rw [hjk, ← HM.out]; exact HE2.out
          · exact hno j (by omega)
        rcases s with _ | _
        · have HV : Hid (cntP X n (PX, PY) (k + 1) = cntP X n (PX, PY) k) := by
            have h9 := HC2.out
            unfold Hid
            simpa using h9
          clear HC2 hno
          go_wp2_with (first | (go_at_call 43; go_must (refine (HL.out _).mono ?_; rintro e w1 ⟨rfl, hb1⟩; have hb1' : Below wr.heap.size wr w1 := below_step hb1 (by repeat (with_reducible first | refine below_alloc _ ?_ | exact Below.refl _ _)); have hS1 := KS w1 (below_step hb1' hbel); have hl1 := boxes2 hb1)) | (go_at_call 48; go_must (refine (HX.out _).mono ?_; rintro e w2 ⟨rfl, hb2⟩; have hb2' : Below wr.heap.size wr w2 := below_step hb2 hb1')))
          go_roundw
          case rel => exact ⟨k + 1, by go_num, by rw [HV.out], by omega, hno2.out, below_step hb2' hbel⟩
          case measure => simp [intOf]; omega
        · have HV : Hid (cntP X n (PX, PY) (k + 1) = cntP X n (PX, PY) k + 1) := by
            have h9 := HC2.out
            unfold Hid
            simpa using h9
          clear HC2 hno
          go_wp2_with (first | (go_at_call 43; go_must (refine (HL.out _).mono ?_; rintro e w1 ⟨rfl, hb1⟩; have hb1' : Below wr.heap.size wr w1 := below_step hb1 (by repeat (with_reducible first | refine below_alloc _ ?_ | exact Below.refl _ _)); have hS1 := KS w1 (below_step hb1' hbel); have hl1 := boxes2 hb1)) | (go_at_call 48; go_must (refine (HX.out _).mono ?_; rintro e w2 ⟨rfl, hb2⟩; have hb2' : Below wr.heap.size wr w2 := below_step hb2 hb1')))
          go_roundw
          case rel => exact ⟨k + 1, by go_num, by rw [HV.out]; go_num, by omega, hno2.out, below_step hb2' hbel⟩
          case measure => simp [intOf]; omega
      · go_wp2_with (first | (go_at_call 43; go_must (refine (HL.out _).mono ?_; rintro e w1 ⟨rfl, hb1⟩; have hb1' : Below wr.heap.size wr w1 := below_step hb1 (by repeat (with_reducible first | refine below_alloc _ ?_ | exact Below.refl _ _)))))
        go_ret
        exact ⟨by rw [ins_on hmn HE2.out]; rfl, hw.trans ((below_step hb1' hbel).mono hw.size)⟩
    · have hkn : k = n := by omega
      subst hkn
      have hr := ins_off (edges_all hno)
      rw [← cnt_last] at hr
      by_cases h2 : cntP X k (PX, PY) k % 2 = 1
      · have h3 : Int.tmod (cntP X k (PX, PY) k : Int) 2 = 1 := by rw [Int.tmod_eq_emod_of_nonneg (by omega)]; omega
        rw [if_pos h2] at hr
        have HR : Hid (insV X k (PX, PY) = 1) := hr
        clear h2 hr hno
        go_wp2_with fail
        go_ret
        exact ⟨by rw [HR.out]; rfl, hw.trans (hbel.mono hw.size)⟩
      · have h3 : Int.tmod (cntP X k (PX, PY) k : Int) 2 = 0 := by rw [Int.tmod_eq_emod_of_nonneg (by omega)]; omega
        rw [if_neg h2] at hr
        have HR : Hid (insV X k (PX, PY) = -1) := hr
        clear h2 hr hno
        go_wp2_with fail
        go_ret
        exact ⟨by rw [HR.out]; rfl, hw.trans (hbel.mono hw.size)⟩

end Go.Proofs.Ytbjjkfmdkmbcfaa
