import Derived.Test.YtbjjkfmdkmbcfaaGreatMWy
namespace Go.Proofs.YtbjjkfmdkmbcfaaGreat
open Go.RowKit
open PlRd

attribute [local go_sem ↓] Go.wp_at_zero Go.wp_at_succ

/-- The document's unit, 2 ^ -100, in units of 2 ^ -1074. -/
def EU : Int := 2 ^ 974
theorem EU_pos : 0 < EU := two_pow_pos 974

/-- A coordinate that may be, in the document's units. -/
def Cr (b : Nat) (x : Int) : Prop := Co b (x * EU)

theorem sgn_scale (x c : Int) (hc : 0 < c) : sgn (x * c) = sgn x := by
  unfold sgn
  have h1 : (0 < x * c) ↔ 0 < x := by
    have := Int.mul_lt_mul_right (a := c) (b := 0) (c := x) hc
    rw [Int.zero_mul] at this
    exact this
  have h2 : (x * c < 0) ↔ x < 0 := by
    have := Int.mul_lt_mul_right (a := c) (b := x) (c := 0) hc
    rw [Int.zero_mul] at this
    exact this
  simp only [h1, h2]

theorem scale2 (a b c d E : Int) : (a * E - b * E) * (c * E - d * E) = (a - b) * (c - d) * (E * E) := by
  rw [← Int.sub_mul, ← Int.sub_mul]
  generalize a - b = p
  generalize c - d = q
  rw [Int.mul_assoc, Int.mul_assoc, ← Int.mul_assoc E q E, Int.mul_comm E q, Int.mul_assoc]

/-- The sign of the turn. -/
def trn (AX AY BX BY CX CY : Int) : Int := sgn (turnI AX AY BX BY CX CY)

theorem trn_scale (AX AY BX BY CX CY : Int) : sgn (turnI (AX * EU) (AY * EU) (BX * EU) (BY * EU) (CX * EU) (CY * EU)) = trn AX AY BX BY CX CY := by
  unfold trn turnI
  rw [scale2, scale2, ← Int.sub_mul, sgn_scale _ _ (Int.mul_pos EU_pos EU_pos)]

theorem trn_three (AX AY BX BY CX CY : Int) : trn AX AY BX BY CX CY = -1 ∨ trn AX AY BX BY CX CY = 0 ∨ trn AX AY BX BY CX CY = 1 := by
  unfold trn sgn
  split
  · exact .inr (.inr rfl)
  · split
    · exact .inl rfl
    · exact .inr (.inl rfl)

theorem turn_cr (ax ay bx by' cx cy : Nat) (AX AY BX BY CX CY : Int) (w : World) (hax : Cr ax AX) (hay : Cr ay AY) (hbx : Cr bx BX) (hby : Cr by' BY) (hcx : Cr cx CX) (hcy : Cr cy CY) :
    Calls Tryz.prog 36 #[.agg #[.float .f64 ax, .float .f64 ay], .agg #[.float .f64 bx, .float .f64 by'], .agg #[.float .f64 cx, .float .f64 cy]] w fun e w' => e = .returned (.int .i64 (trn AX AY BX BY CX CY)) ∧ Below w.heap.size w w' := by
  rw [← trn_scale]
  exact turn_any ax ay bx by' cx cy _ _ _ _ _ _ w hax hay hbx hby hcx hcy

theorem btw_scale (X A B : Int) : btw (X * EU) (A * EU) (B * EU) = btw X A B := by
  unfold btw
  rw [← Int.sub_mul, ← Int.sub_mul, sgn_scale _ _ EU_pos, sgn_scale _ _ EU_pos]

theorem between_cr (x a b : Nat) (X A B : Int) (w : World) (hx : Cr x X) (ha : Cr a A) (hb : Cr b B) :
    Calls Tryz.prog 76 #[.float .f64 x, .float .f64 a, .float .f64 b] w fun e w' => e = .returned (.bool (btw X A B)) ∧ Below w.heap.size w w' := by
  rw [← btw_scale]
  exact betweenF_any x a b _ _ _ w hx.1 ha.1 hb.1

/-- p lies on the segment from a to b. -/
def liesI (PX PY AX AY BX BY : Int) : Bool := (btw PX AX BX && btw PY AY BY) && decide (trn AX AY BX BY PX PY = 0)

set_option maxHeartbeats 4000000 in
set_option maxRecDepth 100000 in
theorem lies_cr (px py ax ay bx by' : Nat) (PX PY AX AY BX BY : Int) (w : World) (hpx : Cr px PX) (hpy : Cr py PY) (hax : Cr ax AX) (hay : Cr ay AY) (hbx : Cr bx BX) (hby : Cr by' BY) :
    Calls Tryz.prog 60 #[.agg #[.float .f64 px, .float .f64 py], .agg #[.float .f64 ax, .float .f64 ay], .agg #[.float .f64 bx, .float .f64 by']] w fun e w' => e = .returned (.bool (liesI PX PY AX AY BX BY)) ∧ Below w.heap.size w w' := by
  obtain ⟨t, ht⟩ : ∃ t, t = trn AX AY BX BY PX PY := ⟨_, rfl⟩
  obtain ⟨x, hx⟩ : ∃ x, x = btw PX AX BX := ⟨_, rfl⟩
  obtain ⟨y, hy⟩ : ∃ y, y = btw PY AY BY := ⟨_, rfl⟩
  have hr : liesI PX PY AX AY BX BY = ((x && y) && decide (t = 0)) := by unfold liesI; rw [ht, hx, hy]
  rw [hr]
  have HX : Hid (∀ W, Calls Tryz.prog 76 #[.float .f64 px, .float .f64 ax, .float .f64 bx] W fun e w' => e = .returned (.bool x) ∧ Below W.heap.size W w') := fun W => by rw [hx]; exact between_cr px ax bx PX AX BX W hpx hax hbx
  have HY : Hid (∀ W, Calls Tryz.prog 76 #[.float .f64 py, .float .f64 ay, .float .f64 by'] W fun e w' => e = .returned (.bool y) ∧ Below W.heap.size W w') := fun W => by rw [hy]; exact between_cr py ay by' PY AY BY W hpy hay hby
  have HT : Hid (∀ W, Calls Tryz.prog 36 #[.agg #[.float .f64 ax, .float .f64 ay], .agg #[.float .f64 bx, .float .f64 by'], .agg #[.float .f64 px, .float .f64 py]] W fun e w' => e = .returned (.int .i64 t) ∧ Below W.heap.size W w') := fun W => by rw [ht]; exact turn_cr ax ay bx by' px py AX AY BX BY PX PY W hax hay hbx hby hpx hpy
  clear ht hx hy hr hpx hpy hax hay hbx hby
  by_cases h0 : t = 0 <;> cases x <;> cases y
  all_goals
    go_enter Tryz.func60, Tryz.ntmps60
    go_upto_region 1 with fail
    generalize hW : World.alloc (World.alloc (World.alloc w _) _) _ = W
    have hWs : W.heap.size = w.heap.size + 3 := by subst hW; simp
    have hw : Below w.heap.size w W := by
      subst hW
      exact ((((Below.refl _ w).alloc (by simp <;> omega) _).alloc (by simp <;> omega) _).alloc (by simp <;> omega) _)
    have KS : ∀ w', Below W.heap.size W w' → (w'.cell? ⟨w.heap.size, 0, none⟩ = some (.float .f64 px) ∧ w'.cell? ⟨w.heap.size, 1, none⟩ = some (.float .f64 py) ∧ w'.cell? ⟨w.heap.size + 1, 0, none⟩ = some (.float .f64 ax) ∧ w'.cell? ⟨w.heap.size + 1, 1, none⟩ = some (.float .f64 ay) ∧ w'.cell? ⟨w.heap.size + 1 + 1, 0, none⟩ = some (.float .f64 bx) ∧ w'.cell? ⟨w.heap.size + 1 + 1, 1, none⟩ = some (.float .f64 by')) := by
      intro w' hb
      obtain ⟨hc, _⟩ := bcell hb
      refine ⟨?_, ?_, ?_, ?_, ?_, ?_⟩
      all_goals (rw [hc _ _ (by omega)]; subst hW; simp [go_sem])
    clear hW hWs
    have hS0 := KS W (Below.refl _ _)
    go_wp2_with (first
      | (go_at_call 76; have g1 := hb1; go_must (refine (HY.out _).mono ?_; rintro e w2 ⟨rfl, hb2⟩; have hW2 : Below W.heap.size W w2 := below_step hb2 hW1; have hS2 := KS w2 hW2))
      | (go_at_call 76; go_must (refine (HX.out _).mono ?_; rintro e w1 ⟨rfl, hb1⟩; have hW1 : Below W.heap.size W w1 := hb1; have hS1 := KS w1 hW1))
      | (go_at_call 36; go_must (refine (HT.out _).mono ?_; rintro e w3 ⟨rfl, hb3⟩; have hW3 : Below W.heap.size W w3 := below_step hb3 hW2)))
    all_goals
      go_ret
      exact ⟨by simp [h0], hw.trans (Below.mono (B := W.heap.size) (by first | exact hW3 | exact hW2 | exact hW1) hw.size)⟩

theorem one_cell {w : World} {v : Value} {t : TypeId} {b : Nat} (hb : b = w.heap.size) : (w.alloc (.cells #[v] t)).cell? ⟨b, 0, none⟩ = some v := by subst hb; simp [go_sem]

/-- The line from a to b has c on one side and d on the other. -/
def partsI (AX AY BX BY CX CY DX DY : Int) : Bool := decide (trn AX AY BX BY CX CY * trn AX AY BX BY DX DY = -1)

set_option maxHeartbeats 4000000 in
set_option maxRecDepth 100000 in
theorem parts_cr (ax ay bx by' cx cy dx dy : Nat) (AX AY BX BY CX CY DX DY : Int) (w : World) (hax : Cr ax AX) (hay : Cr ay AY) (hbx : Cr bx BX) (hby : Cr by' BY) (hcx : Cr cx CX) (hcy : Cr cy CY) (hdx : Cr dx DX) (hdy : Cr dy DY) :
    Calls Tryz.prog 59 #[.agg #[.float .f64 ax, .float .f64 ay], .agg #[.float .f64 bx, .float .f64 by'], .agg #[.float .f64 cx, .float .f64 cy], .agg #[.float .f64 dx, .float .f64 dy]] w fun e w' => e = .returned (.bool (partsI AX AY BX BY CX CY DX DY)) ∧ Below w.heap.size w w' := by
  obtain ⟨s, hs⟩ : ∃ s, s = trn AX AY BX BY CX CY := ⟨_, rfl⟩
  obtain ⟨t, ht⟩ : ∃ t, t = trn AX AY BX BY DX DY := ⟨_, rfl⟩
  have hr : partsI AX AY BX BY CX CY DX DY = decide (s * t = -1) := by unfold partsI; rw [hs, ht]
  rw [hr]
  have s3 : s = -1 ∨ s = 0 ∨ s = 1 := hs ▸ trn_three _ _ _ _ _ _
  have t3 : t = -1 ∨ t = 0 ∨ t = 1 := ht ▸ trn_three _ _ _ _ _ _
  have HS : Hid (∀ W, Calls Tryz.prog 36 #[.agg #[.float .f64 ax, .float .f64 ay], .agg #[.float .f64 bx, .float .f64 by'], .agg #[.float .f64 cx, .float .f64 cy]] W fun e w' => e = .returned (.int .i64 s) ∧ Below W.heap.size W w') := fun W => by rw [hs]; exact turn_cr ax ay bx by' cx cy AX AY BX BY CX CY W hax hay hbx hby hcx hcy
  have HT : Hid (∀ W, Calls Tryz.prog 36 #[.agg #[.float .f64 ax, .float .f64 ay], .agg #[.float .f64 bx, .float .f64 by'], .agg #[.float .f64 dx, .float .f64 dy]] W fun e w' => e = .returned (.int .i64 t) ∧ Below W.heap.size W w') := fun W => by rw [ht]; exact turn_cr ax ay bx by' dx dy AX AY BX BY DX DY W hax hay hbx hby hdx hdy
  clear hs ht hr hax hay hbx hby hcx hcy hdx hdy
  go_enter Tryz.func59, Tryz.ntmps59
  go_upto_region 1 with fail
  generalize hW : World.alloc (World.alloc (World.alloc (World.alloc w _) _) _) _ = W
  have hWs : W.heap.size = w.heap.size + 4 := by subst hW; simp
  have hw : Below w.heap.size w W := by
    subst hW
    exact (((((Below.refl _ w).alloc (by simp <;> omega) _).alloc (by simp <;> omega) _).alloc (by simp <;> omega) _).alloc (by simp <;> omega) _)
  have KS : ∀ w', Below W.heap.size W w' → (w'.cell? ⟨w.heap.size, 0, none⟩ = some (.float .f64 ax) ∧ w'.cell? ⟨w.heap.size, 1, none⟩ = some (.float .f64 ay) ∧ w'.cell? ⟨w.heap.size + 1, 0, none⟩ = some (.float .f64 bx) ∧ w'.cell? ⟨w.heap.size + 1, 1, none⟩ = some (.float .f64 by') ∧ w'.cell? ⟨w.heap.size + 1 + 1, 0, none⟩ = some (.float .f64 cx) ∧ w'.cell? ⟨w.heap.size + 1 + 1, 1, none⟩ = some (.float .f64 cy) ∧ w'.cell? ⟨w.heap.size + 1 + 1 + 1, 0, none⟩ = some (.float .f64 dx) ∧ w'.cell? ⟨w.heap.size + 1 + 1 + 1, 1, none⟩ = some (.float .f64 dy)) := by
    intro w' hb
    obtain ⟨hc, _⟩ := bcell hb
    refine ⟨?_, ?_, ?_, ?_, ?_, ?_, ?_, ?_⟩
    all_goals (rw [hc _ _ (by omega)]; subst hW; simp [go_sem])
  clear hW hWs
  have hS0 := KS W (Below.refl _ _)
  go_cut [9, 10] (fun v9 v10 wc => v9 = .int .i64 s ∧ v10 = .int .i64 t ∧ Below W.heap.size W wc)
  case first =>
    go_region_held3 (fun w' : World => (w'.cell? ⟨w.heap.size, 0, none⟩ = some (.float .f64 ax) ∧ w'.cell? ⟨w.heap.size, 1, none⟩ = some (.float .f64 ay) ∧ w'.cell? ⟨w.heap.size + 1, 0, none⟩ = some (.float .f64 bx) ∧ w'.cell? ⟨w.heap.size + 1, 1, none⟩ = some (.float .f64 by') ∧ w'.cell? ⟨w.heap.size + 1 + 1, 0, none⟩ = some (.float .f64 cx) ∧ w'.cell? ⟨w.heap.size + 1 + 1, 1, none⟩ = some (.float .f64 cy) ∧ w'.cell? ⟨w.heap.size + 1 + 1 + 1, 0, none⟩ = some (.float .f64 dx) ∧ w'.cell? ⟨w.heap.size + 1 + 1 + 1, 1, none⟩ = some (.float .f64 dy))) (exact KS _ (by repeat (first | exact hW2 | exact hW1 | exact Below.refl _ _ | refine Below.drew ?_))) (first
      | (go_at_call 36; have g1 := hb1; go_must (refine (HT.out _).mono ?_; rintro e w2 ⟨rfl, hb2⟩; have hW2 : Below W.heap.size W w2 := below_step hb2 hW1))
      | (go_at_call 36; go_must (refine (HS.out _).mono ?_; rintro e w1 ⟨rfl, hb1⟩; have hW1 : Below W.heap.size W w1 := below_step hb1 (Below.refl _ _).drew)))
    all_goals
      go_wp2_with fail
      go_meet
      exact ⟨rfl, rfl, hW2⟩
  case rest =>
    obtain ⟨hv9, hv10, hbc⟩ := hcut
    subst hv9 hv10
    clear HS HT KS hS0
    rcases s3 with rfl | rfl | rfl <;> rcases t3 with rfl | rfl | rfl
    all_goals
      go_wp2_with (first | (go_at_call 74; go_must (refine (leastI_any _ _ _ _ _ (one_cell (by simp))).mono ?_; rintro e w3 ⟨rfl, rfl⟩)) | (go_at_call 75; go_must (refine (greatestI_any _ _ _ _ _ (one_cell (by simp))).mono ?_; rintro e w4 ⟨rfl, rfl⟩)))
      all_goals
        go_ret
        refine ⟨by first | rfl | simp, ?_⟩
        refine hw.trans (Below.mono (B := W.heap.size) ?_ hw.size)
        repeat (first | exact hbc | refine Below.drew ?_ | refine below_alloc _ ?_)

/-- How two segments meet. -/
def meetI (AX AY BX BY CX CY DX DY : Int) : Int :=
  if (partsI AX AY BX BY CX CY DX DY && partsI CX CY DX DY AX AY BX BY) = true then 2
  else if (((liesI CX CY AX AY BX BY || liesI DX DY AX AY BX BY) || liesI AX AY CX CY DX DY) || liesI BX BY CX CY DX DY) = true then 1 else 0

set_option maxHeartbeats 8000000 in
set_option maxRecDepth 100000 in
theorem meet_cr (ax ay bx by' cx cy dx dy : Nat) (AX AY BX BY CX CY DX DY : Int) (w : World) (hax : Cr ax AX) (hay : Cr ay AY) (hbx : Cr bx BX) (hby : Cr by' BY) (hcx : Cr cx CX) (hcy : Cr cy CY) (hdx : Cr dx DX) (hdy : Cr dy DY) :
    Calls Tryz.prog 44 #[.agg #[.float .f64 ax, .float .f64 ay], .agg #[.float .f64 bx, .float .f64 by'], .agg #[.float .f64 cx, .float .f64 cy], .agg #[.float .f64 dx, .float .f64 dy]] w fun e w' => e = .returned (.int .i64 (meetI AX AY BX BY CX CY DX DY)) ∧ Below w.heap.size w w' := by
  obtain ⟨p, hp⟩ : ∃ p, p = partsI AX AY BX BY CX CY DX DY := ⟨_, rfl⟩
  obtain ⟨q, hq⟩ : ∃ q, q = partsI CX CY DX DY AX AY BX BY := ⟨_, rfl⟩
  obtain ⟨x, hx⟩ : ∃ x, x = liesI CX CY AX AY BX BY := ⟨_, rfl⟩
  obtain ⟨y, hy⟩ : ∃ y, y = liesI DX DY AX AY BX BY := ⟨_, rfl⟩
  obtain ⟨z, hz⟩ : ∃ z, z = liesI AX AY CX CY DX DY := ⟨_, rfl⟩
  obtain ⟨u, hu⟩ : ∃ u, u = liesI BX BY CX CY DX DY := ⟨_, rfl⟩
  have hr : meetI AX AY BX BY CX CY DX DY = if (p && q) = true then 2 else if (((x || y) || z) || u) = true then 1 else 0 := by unfold meetI; rw [hp, hq, hx, hy, hz, hu]
  rw [hr]
  have HP : Hid (∀ W, Calls Tryz.prog 59 #[.agg #[.float .f64 ax, .float .f64 ay], .agg #[.float .f64 bx, .float .f64 by'], .agg #[.float .f64 cx, .float .f64 cy], .agg #[.float .f64 dx, .float .f64 dy]] W fun e w' => e = .returned (.bool p) ∧ Below W.heap.size W w') := fun W => by rw [hp]; exact parts_cr ax ay bx by' cx cy dx dy AX AY BX BY CX CY DX DY W hax hay hbx hby hcx hcy hdx hdy
  have HQ : Hid (∀ W, Calls Tryz.prog 59 #[.agg #[.float .f64 cx, .float .f64 cy], .agg #[.float .f64 dx, .float .f64 dy], .agg #[.float .f64 ax, .float .f64 ay], .agg #[.float .f64 bx, .float .f64 by']] W fun e w' => e = .returned (.bool q) ∧ Below W.heap.size W w') := fun W => by rw [hq]; exact parts_cr cx cy dx dy ax ay bx by' CX CY DX DY AX AY BX BY W hcx hcy hdx hdy hax hay hbx hby
  have HX : Hid (∀ W, Calls Tryz.prog 60 #[.agg #[.float .f64 cx, .float .f64 cy], .agg #[.float .f64 ax, .float .f64 ay], .agg #[.float .f64 bx, .float .f64 by']] W fun e w' => e = .returned (.bool x) ∧ Below W.heap.size W w') := fun W => by rw [hx]; exact lies_cr cx cy ax ay bx by' CX CY AX AY BX BY W hcx hcy hax hay hbx hby
  have HY : Hid (∀ W, Calls Tryz.prog 60 #[.agg #[.float .f64 dx, .float .f64 dy], .agg #[.float .f64 ax, .float .f64 ay], .agg #[.float .f64 bx, .float .f64 by']] W fun e w' => e = .returned (.bool y) ∧ Below W.heap.size W w') := fun W => by rw [hy]; exact lies_cr dx dy ax ay bx by' DX DY AX AY BX BY W hdx hdy hax hay hbx hby
  have HZ : Hid (∀ W, Calls Tryz.prog 60 #[.agg #[.float .f64 ax, .float .f64 ay], .agg #[.float .f64 cx, .float .f64 cy], .agg #[.float .f64 dx, .float .f64 dy]] W fun e w' => e = .returned (.bool z) ∧ Below W.heap.size W w') := fun W => by rw [hz]; exact lies_cr ax ay cx cy dx dy AX AY CX CY DX DY W hax hay hcx hcy hdx hdy
  have HU : Hid (∀ W, Calls Tryz.prog 60 #[.agg #[.float .f64 bx, .float .f64 by'], .agg #[.float .f64 cx, .float .f64 cy], .agg #[.float .f64 dx, .float .f64 dy]] W fun e w' => e = .returned (.bool u) ∧ Below W.heap.size W w') := fun W => by rw [hu]; exact lies_cr bx by' cx cy dx dy BX BY CX CY DX DY W hbx hby hcx hcy hdx hdy
  clear hp hq hx hy hz hu hr hax hay hbx hby hcx hcy hdx hdy
  go_enter Tryz.func44, Tryz.ntmps44
  go_upto_region 1 with fail
  generalize hW : World.alloc (World.alloc (World.alloc (World.alloc w _) _) _) _ = W
  have hWs : W.heap.size = w.heap.size + 4 := by subst hW; simp
  have hw : Below w.heap.size w W := by
    subst hW
    exact (((((Below.refl _ w).alloc (by simp <;> omega) _).alloc (by simp <;> omega) _).alloc (by simp <;> omega) _).alloc (by simp <;> omega) _)
  have KS : ∀ w', Below W.heap.size W w' → (w'.cell? ⟨w.heap.size, 0, none⟩ = some (.float .f64 ax) ∧ w'.cell? ⟨w.heap.size, 1, none⟩ = some (.float .f64 ay) ∧ w'.cell? ⟨w.heap.size + 1, 0, none⟩ = some (.float .f64 bx) ∧ w'.cell? ⟨w.heap.size + 1, 1, none⟩ = some (.float .f64 by') ∧ w'.cell? ⟨w.heap.size + 1 + 1, 0, none⟩ = some (.float .f64 cx) ∧ w'.cell? ⟨w.heap.size + 1 + 1, 1, none⟩ = some (.float .f64 cy) ∧ w'.cell? ⟨w.heap.size + 1 + 1 + 1, 0, none⟩ = some (.float .f64 dx) ∧ w'.cell? ⟨w.heap.size + 1 + 1 + 1, 1, none⟩ = some (.float .f64 dy)) := by
    intro w' hb
    obtain ⟨hc, _⟩ := bcell hb
    refine ⟨?_, ?_, ?_, ?_, ?_, ?_, ?_, ?_⟩
    all_goals (rw [hc _ _ (by omega)]; subst hW; simp [go_sem])
  clear hW hWs
  have hS0 := KS W (Below.refl _ _)
  rcases p with _ | _
  · skip
    rcases x with _ | _
    · skip
      rcases y with _ | _
      · skip
        rcases z with _ | _
        · skip
          rcases u with _ | _
          · skip
            go_wp2_with (first | (go_at_call 59; have g1 := hb1; go_must (refine (HQ.out _).mono ?_; rintro e w2 ⟨rfl, hb2⟩; have hW2 : Below W.heap.size W w2 := below_step hb2 hW1; have hS2 := KS w2 hW2)) | (go_at_call 59; go_must (refine (HP.out _).mono ?_; rintro e w1 ⟨rfl, hb1⟩; have hW1 : Below W.heap.size W w1 := below_step hb1 (Below.refl _ _); have hS1 := KS w1 hW1)) | (go_at_call 60; have g5 := hb5; go_must (refine (HU.out _).mono ?_; rintro e w6 ⟨rfl, hb6⟩; have hW6 : Below W.heap.size W w6 := below_step hb6 hW5; have hS6 := KS w6 hW6)) | (go_at_call 60; have g4 := hb4; go_must (refine (HZ.out _).mono ?_; rintro e w5 ⟨rfl, hb5⟩; have hW5 : Below W.heap.size W w5 := below_step hb5 hW4; have hS5 := KS w5 hW5)) | (go_at_call 60; have g3 := hb3; go_must (refine (HY.out _).mono ?_; rintro e w4 ⟨rfl, hb4⟩; have hW4 : Below W.heap.size W w4 := below_step hb4 hW3; have hS4 := KS w4 hW4)) | (go_at_call 60; go_must (refine (HX.out _).mono ?_; rintro e w3 ⟨rfl, hb3⟩; have hW3 : Below W.heap.size W w3 := below_step hb3 (by first | exact hW2 | exact hW1); have hS3 := KS w3 hW3)))
            go_ret
            exact ⟨by first | rfl | simp, hw.trans (hW6.mono hw.size)⟩
          · skip
            go_wp2_with (first | (go_at_call 59; have g1 := hb1; go_must (refine (HQ.out _).mono ?_; rintro e w2 ⟨rfl, hb2⟩; have hW2 : Below W.heap.size W w2 := below_step hb2 hW1; have hS2 := KS w2 hW2)) | (go_at_call 59; go_must (refine (HP.out _).mono ?_; rintro e w1 ⟨rfl, hb1⟩; have hW1 : Below W.heap.size W w1 := below_step hb1 (Below.refl _ _); have hS1 := KS w1 hW1)) | (go_at_call 60; have g5 := hb5; go_must (refine (HU.out _).mono ?_; rintro e w6 ⟨rfl, hb6⟩; have hW6 : Below W.heap.size W w6 := below_step hb6 hW5; have hS6 := KS w6 hW6)) | (go_at_call 60; have g4 := hb4; go_must (refine (HZ.out _).mono ?_; rintro e w5 ⟨rfl, hb5⟩; have hW5 : Below W.heap.size W w5 := below_step hb5 hW4; have hS5 := KS w5 hW5)) | (go_at_call 60; have g3 := hb3; go_must (refine (HY.out _).mono ?_; rintro e w4 ⟨rfl, hb4⟩; have hW4 : Below W.heap.size W w4 := below_step hb4 hW3; have hS4 := KS w4 hW4)) | (go_at_call 60; go_must (refine (HX.out _).mono ?_; rintro e w3 ⟨rfl, hb3⟩; have hW3 : Below W.heap.size W w3 := below_step hb3 (by first | exact hW2 | exact hW1); have hS3 := KS w3 hW3)))
            go_ret
            exact ⟨by first | rfl | simp, hw.trans (hW6.mono hw.size)⟩
        · skip
          go_wp2_with (first | (go_at_call 59; have g1 := hb1; go_must (refine (HQ.out _).mono ?_; rintro e w2 ⟨rfl, hb2⟩; have hW2 : Below W.heap.size W w2 := below_step hb2 hW1; have hS2 := KS w2 hW2)) | (go_at_call 59; go_must (refine (HP.out _).mono ?_; rintro e w1 ⟨rfl, hb1⟩; have hW1 : Below W.heap.size W w1 := below_step hb1 (Below.refl _ _); have hS1 := KS w1 hW1)) | (go_at_call 60; have g5 := hb5; go_must (refine (HU.out _).mono ?_; rintro e w6 ⟨rfl, hb6⟩; have hW6 : Below W.heap.size W w6 := below_step hb6 hW5; have hS6 := KS w6 hW6)) | (go_at_call 60; have g4 := hb4; go_must (refine (HZ.out _).mono ?_; rintro e w5 ⟨rfl, hb5⟩; have hW5 : Below W.heap.size W w5 := below_step hb5 hW4; have hS5 := KS w5 hW5)) | (go_at_call 60; have g3 := hb3; go_must (refine (HY.out _).mono ?_; rintro e w4 ⟨rfl, hb4⟩; have hW4 : Below W.heap.size W w4 := below_step hb4 hW3; have hS4 := KS w4 hW4)) | (go_at_call 60; go_must (refine (HX.out _).mono ?_; rintro e w3 ⟨rfl, hb3⟩; have hW3 : Below W.heap.size W w3 := below_step hb3 (by first | exact hW2 | exact hW1); have hS3 := KS w3 hW3)))
          go_ret
          exact ⟨by first | rfl | simp, hw.trans (hW5.mono hw.size)⟩
      · skip
        go_wp2_with (first | (go_at_call 59; have g1 := hb1; go_must (refine (HQ.out _).mono ?_; rintro e w2 ⟨rfl, hb2⟩; have hW2 : Below W.heap.size W w2 := below_step hb2 hW1; have hS2 := KS w2 hW2)) | (go_at_call 59; go_must (refine (HP.out _).mono ?_; rintro e w1 ⟨rfl, hb1⟩; have hW1 : Below W.heap.size W w1 := below_step hb1 (Below.refl _ _); have hS1 := KS w1 hW1)) | (go_at_call 60; have g5 := hb5; go_must (refine (HU.out _).mono ?_; rintro e w6 ⟨rfl, hb6⟩; have hW6 : Below W.heap.size W w6 := below_step hb6 hW5; have hS6 := KS w6 hW6)) | (go_at_call 60; have g4 := hb4; go_must (refine (HZ.out _).mono ?_; rintro e w5 ⟨rfl, hb5⟩; have hW5 : Below W.heap.size W w5 := below_step hb5 hW4; have hS5 := KS w5 hW5)) | (go_at_call 60; have g3 := hb3; go_must (refine (HY.out _).mono ?_; rintro e w4 ⟨rfl, hb4⟩; have hW4 : Below W.heap.size W w4 := below_step hb4 hW3; have hS4 := KS w4 hW4)) | (go_at_call 60; go_must (refine (HX.out _).mono ?_; rintro e w3 ⟨rfl, hb3⟩; have hW3 : Below W.heap.size W w3 := below_step hb3 (by first | exact hW2 | exact hW1); have hS3 := KS w3 hW3)))
        go_ret
        exact ⟨by first | rfl | simp, hw.trans (hW4.mono hw.size)⟩
    · skip
      go_wp2_with (first | (go_at_call 59; have g1 := hb1; go_must (refine (HQ.out _).mono ?_; rintro e w2 ⟨rfl, hb2⟩; have hW2 : Below W.heap.size W w2 := below_step hb2 hW1; have hS2 := KS w2 hW2)) | (go_at_call 59; go_must (refine (HP.out _).mono ?_; rintro e w1 ⟨rfl, hb1⟩; have hW1 : Below W.heap.size W w1 := below_step hb1 (Below.refl _ _); have hS1 := KS w1 hW1)) | (go_at_call 60; have g5 := hb5; go_must (refine (HU.out _).mono ?_; rintro e w6 ⟨rfl, hb6⟩; have hW6 : Below W.heap.size W w6 := below_step hb6 hW5; have hS6 := KS w6 hW6)) | (go_at_call 60; have g4 := hb4; go_must (refine (HZ.out _).mono ?_; rintro e w5 ⟨rfl, hb5⟩; have hW5 : Below W.heap.size W w5 := below_step hb5 hW4; have hS5 := KS w5 hW5)) | (go_at_call 60; have g3 := hb3; go_must (refine (HY.out _).mono ?_; rintro e w4 ⟨rfl, hb4⟩; have hW4 : Below W.heap.size W w4 := below_step hb4 hW3; have hS4 := KS w4 hW4)) | (go_at_call 60; go_must (refine (HX.out _).mono ?_; rintro e w3 ⟨rfl, hb3⟩; have hW3 : Below W.heap.size W w3 := below_step hb3 (by first | exact hW2 | exact hW1); have hS3 := KS w3 hW3)))
      go_ret
      exact ⟨by first | rfl | simp, hw.trans (hW3.mono hw.size)⟩
  · skip
    rcases q with _ | _
    · skip
      rcases x with _ | _
      · skip
        rcases y with _ | _
        · skip
          rcases z with _ | _
          · skip
            rcases u with _ | _
            · skip
              go_wp2_with (first | (go_at_call 59; have g1 := hb1; go_must (refine (HQ.out _).mono ?_; rintro e w2 ⟨rfl, hb2⟩; have hW2 : Below W.heap.size W w2 := below_step hb2 hW1; have hS2 := KS w2 hW2)) | (go_at_call 59; go_must (refine (HP.out _).mono ?_; rintro e w1 ⟨rfl, hb1⟩; have hW1 : Below W.heap.size W w1 := below_step hb1 (Below.refl _ _); have hS1 := KS w1 hW1)) | (go_at_call 60; have g5 := hb5; go_must (refine (HU.out _).mono ?_; rintro e w6 ⟨rfl, hb6⟩; have hW6 : Below W.heap.size W w6 := below_step hb6 hW5; have hS6 := KS w6 hW6)) | (go_at_call 60; have g4 := hb4; go_must (refine (HZ.out _).mono ?_; rintro e w5 ⟨rfl, hb5⟩; have hW5 : Below W.heap.size W w5 := below_step hb5 hW4; have hS5 := KS w5 hW5)) | (go_at_call 60; have g3 := hb3; go_must (refine (HY.out _).mono ?_; rintro e w4 ⟨rfl, hb4⟩; have hW4 : Below W.heap.size W w4 := below_step hb4 hW3; have hS4 := KS w4 hW4)) | (go_at_call 60; go_must (refine (HX.out _).mono ?_; rintro e w3 ⟨rfl, hb3⟩; have hW3 : Below W.heap.size W w3 := below_step hb3 (by first | exact hW2 | exact hW1); have hS3 := KS w3 hW3)))
              go_ret
              exact ⟨by first | rfl | simp, hw.trans (hW6.mono hw.size)⟩
            · skip
              go_wp2_with (first | (go_at_call 59; have g1 := hb1; go_must (refine (HQ.out _).mono ?_; rintro e w2 ⟨rfl, hb2⟩; have hW2 : Below W.heap.size W w2 := below_step hb2 hW1; have hS2 := KS w2 hW2)) | (go_at_call 59; go_must (refine (HP.out _).mono ?_; rintro e w1 ⟨rfl, hb1⟩; have hW1 : Below W.heap.size W w1 := below_step hb1 (Below.refl _ _); have hS1 := KS w1 hW1)) | (go_at_call 60; have g5 := hb5; go_must (refine (HU.out _).mono ?_; rintro e w6 ⟨rfl, hb6⟩; have hW6 : Below W.heap.size W w6 := below_step hb6 hW5; have hS6 := KS w6 hW6)) | (go_at_call 60; have g4 := hb4; go_must (refine (HZ.out _).mono ?_; rintro e w5 ⟨rfl, hb5⟩; have hW5 : Below W.heap.size W w5 := below_step hb5 hW4; have hS5 := KS w5 hW5)) | (go_at_call 60; have g3 := hb3; go_must (refine (HY.out _).mono ?_; rintro e w4 ⟨rfl, hb4⟩; have hW4 : Below W.heap.size W w4 := below_step hb4 hW3; have hS4 := KS w4 hW4)) | (go_at_call 60; go_must (refine (HX.out _).mono ?_; rintro e w3 ⟨rfl, hb3⟩; have hW3 : Below W.heap.size W w3 := below_step hb3 (by first | exact hW2 | exact hW1); have hS3 := KS w3 hW3)))
              go_ret
              exact ⟨by first | rfl | simp, hw.trans (hW6.mono hw.size)⟩
          · skip
            go_wp2_with (first | (go_at_call 59; have g1 := hb1; go_must (refine (HQ.out _).mono ?_; rintro e w2 ⟨rfl, hb2⟩; have hW2 : Below W.heap.size W w2 := below_step hb2 hW1; have hS2 := KS w2 hW2)) | (go_at_call 59; go_must (refine (HP.out _).mono ?_; rintro e w1 ⟨rfl, hb1⟩; have hW1 : Below W.heap.size W w1 := below_step hb1 (Below.refl _ _); have hS1 := KS w1 hW1)) | (go_at_call 60; have g5 := hb5; go_must (refine (HU.out _).mono ?_; rintro e w6 ⟨rfl, hb6⟩; have hW6 : Below W.heap.size W w6 := below_step hb6 hW5; have hS6 := KS w6 hW6)) | (go_at_call 60; have g4 := hb4; go_must (refine (HZ.out _).mono ?_; rintro e w5 ⟨rfl, hb5⟩; have hW5 : Below W.heap.size W w5 := below_step hb5 hW4; have hS5 := KS w5 hW5)) | (go_at_call 60; have g3 := hb3; go_must (refine (HY.out _).mono ?_; rintro e w4 ⟨rfl, hb4⟩; have hW4 : Below W.heap.size W w4 := below_step hb4 hW3; have hS4 := KS w4 hW4)) | (go_at_call 60; go_must (refine (HX.out _).mono ?_; rintro e w3 ⟨rfl, hb3⟩; have hW3 : Below W.heap.size W w3 := below_step hb3 (by first | exact hW2 | exact hW1); have hS3 := KS w3 hW3)))
            go_ret
            exact ⟨by first | rfl | simp, hw.trans (hW5.mono hw.size)⟩
        · skip
          go_wp2_with (first | (go_at_call 59; have g1 := hb1; go_must (refine (HQ.out _).mono ?_; rintro e w2 ⟨rfl, hb2⟩; have hW2 : Below W.heap.size W w2 := below_step hb2 hW1; have hS2 := KS w2 hW2)) | (go_at_call 59; go_must (refine (HP.out _).mono ?_; rintro e w1 ⟨rfl, hb1⟩; have hW1 : Below W.heap.size W w1 := below_step hb1 (Below.refl _ _); have hS1 := KS w1 hW1)) | (go_at_call 60; have g5 := hb5; go_must (refine (HU.out _).mono ?_; rintro e w6 ⟨rfl, hb6⟩; have hW6 : Below W.heap.size W w6 := below_step hb6 hW5; have hS6 := KS w6 hW6)) | (go_at_call 60; have g4 := hb4; go_must (refine (HZ.out _).mono ?_; rintro e w5 ⟨rfl, hb5⟩; have hW5 : Below W.heap.size W w5 := below_step hb5 hW4; have hS5 := KS w5 hW5)) | (go_at_call 60; have g3 := hb3; go_must (refine (HY.out _).mono ?_; rintro e w4 ⟨rfl, hb4⟩; have hW4 : Below W.heap.size W w4 := below_step hb4 hW3; have hS4 := KS w4 hW4)) | (go_at_call 60; go_must (refine (HX.out _).mono ?_; rintro e w3 ⟨rfl, hb3⟩; have hW3 : Below W.heap.size W w3 := below_step hb3 (by first | exact hW2 | exact hW1); have hS3 := KS w3 hW3)))
          go_ret
          exact ⟨by first | rfl | simp, hw.trans (hW4.mono hw.size)⟩
      · skip
        go_wp2_with (first | (go_at_call 59; have g1 := hb1; go_must (refine (HQ.out _).mono ?_; rintro e w2 ⟨rfl, hb2⟩; have hW2 : Below W.heap.size W w2 := below_step hb2 hW1; have hS2 := KS w2 hW2)) | (go_at_call 59; go_must (refine (HP.out _).mono ?_; rintro e w1 ⟨rfl, hb1⟩; have hW1 : Below W.heap.size W w1 := below_step hb1 (Below.refl _ _); have hS1 := KS w1 hW1)) | (go_at_call 60; have g5 := hb5; go_must (refine (HU.out _).mono ?_; rintro e w6 ⟨rfl, hb6⟩; have hW6 : Below W.heap.size W w6 := below_step hb6 hW5; have hS6 := KS w6 hW6)) | (go_at_call 60; have g4 := hb4; go_must (refine (HZ.out _).mono ?_; rintro e w5 ⟨rfl, hb5⟩; have hW5 : Below W.heap.size W w5 := below_step hb5 hW4; have hS5 := KS w5 hW5)) | (go_at_call 60; have g3 := hb3; go_must (refine (HY.out _).mono ?_; rintro e w4 ⟨rfl, hb4⟩; have hW4 : Below W.heap.size W w4 := below_step hb4 hW3; have hS4 := KS w4 hW4)) | (go_at_call 60; go_must (refine (HX.out _).mono ?_; rintro e w3 ⟨rfl, hb3⟩; have hW3 : Below W.heap.size W w3 := below_step hb3 (by first | exact hW2 | exact hW1); have hS3 := KS w3 hW3)))
        go_ret
        exact ⟨by first | rfl | simp, hw.trans (hW3.mono hw.size)⟩
    · skip
      go_wp2_with (first | (go_at_call 59; have g1 := hb1; go_must (refine (HQ.out _).mono ?_; rintro e w2 ⟨rfl, hb2⟩; have hW2 : Below W.heap.size W w2 := below_step hb2 hW1; have hS2 := KS w2 hW2)) | (go_at_call 59; go_must (refine (HP.out _).mono ?_; rintro e w1 ⟨rfl, hb1⟩; have hW1 : Below W.heap.size W w1 := below_step hb1 (Below.refl _ _); have hS1 := KS w1 hW1)) | (go_at_call 60; have g5 := hb5; go_must (refine (HU.out _).mono ?_; rintro e w6 ⟨rfl, hb6⟩; have hW6 : Below W.heap.size W w6 := below_step hb6 hW5; have hS6 := KS w6 hW6)) | (go_at_call 60; have g4 := hb4; go_must (refine (HZ.out _).mono ?_; rintro e w5 ⟨rfl, hb5⟩; have hW5 : Below W.heap.size W w5 := below_step hb5 hW4; have hS5 := KS w5 hW5)) | (go_at_call 60; have g3 := hb3; go_must (refine (HY.out _).mono ?_; rintro e w4 ⟨rfl, hb4⟩; have hW4 : Below W.heap.size W w4 := below_step hb4 hW3; have hS4 := KS w4 hW4)) | (go_at_call 60; go_must (refine (HX.out _).mono ?_; rintro e w3 ⟨rfl, hb3⟩; have hW3 : Below W.heap.size W w3 := below_step hb3 (by first | exact hW2 | exact hW1); have hS3 := KS w3 hW3)))
      go_ret
      exact ⟨by first | rfl | simp, hw.trans (hW2.mono hw.size)⟩

end Go.Proofs.YtbjjkfmdkmbcfaaGreat
