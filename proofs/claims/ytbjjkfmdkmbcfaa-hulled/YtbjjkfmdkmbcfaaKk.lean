import Derived.Test.YtbjjkfmdkmbcfaaKj
namespace Go.Proofs.Ytbjjkfmdkmbcfaa
open Go.RowKit
open PlRd (sgn)

attribute [local go_sem ↓] Go.wp_at_zero Go.wp_at_succ

set_option maxHeartbeats 2000000 in
set_option maxRecDepth 100000 in
theorem bits_zero (p : Int) (w : World) : Calls Try.prog 20 #[.int .i64 0, .int .i64 p] w fun e w' => e = .returned (.int .u64 0) ∧ w' = w := by
  go_enter Try.func20, Try.ntmps20
  go_wp2
  go_ret
  exact ⟨rfl, rfl⟩

theorem bt_zero (p : Int) : Bt 0 0 p := ⟨by decide, by decide +kernel, by rw [Int.zero_mul]; decide +kernel⟩

/-- A number times a power of 2 that may be. -/
def Fit (n p : Int) : Prop := n.natAbs < 9007199254740992 ∧ -100 ≤ p ∧ p ≤ 900 ∧ n.natAbs * 2 ^ (p + 100).toNat < 2 ^ 200

structure BiR (n p : Int) : Prop where
  out : ∀ V, Calls Try.prog 20 #[.int .i64 n, .int .i64 p] V fun e w' => ∃ b : Nat, e = .returned (.int .u64 b) ∧ Bt b n p ∧ w' = V
theorem BiR.use {n p : Int} (h : BiR n p) (V : World) : Calls Try.prog 20 #[.int .i64 n, .int .i64 p] V fun e w' => ∃ b : Nat, e = .returned (.int .u64 b) ∧ Bt b n p ∧ w' = V := h.out V

theorem bits_any (n p : Int) (h : Fit n p) : BiR n p := by
  constructor
  intro V
  by_cases h0 : n = 0
  · subst h0
    refine (bits_zero p V).mono ?_
    rintro e w' ⟨rfl, rfl⟩
    exact ⟨0, rfl, bt_zero p, rfl⟩
  · obtain ⟨h1, h2, h3, h4⟩ := h
    refine (bits_walk n p V h0 h1 h2 h3 h4).mono ?_
    rintro e w' ⟨rfl, b, rfl, hb⟩
    exact ⟨b, rfl, hb.1, rfl⟩

theorem fit_bent {n k : Int} (h : -4096 < n ∧ n < 4096) (hk : -100 ≤ k ∧ k ≤ 87) : Fit n k := by
  refine ⟨by omega, by omega, by omega, ?_⟩
  have h1 : n.natAbs < 2 ^ 12 := by omega
  have h2 : 2 ^ (k + 100).toNat ≤ 2 ^ 187 := Nat.pow_le_pow_right (by omega) (by omega)
  exact Nat.lt_of_le_of_lt (Nat.mul_le_mul_left _ h2) (Nat.lt_trans (Nat.mul_lt_mul_of_pos_right h1 (by decide)) (by decide))

structure AtR (x y X Y : Int) : Prop where
  out : ∀ V, Calls Try.prog 15 #[.agg #[.int .i64 x, .int .i64 y]] V fun e w' => e = .returned (.agg #[.int .i64 X, .int .i64 Y]) ∧ Below V.heap.size V w'
theorem AtR.use {x y X Y : Int} (h : AtR x y X Y) (V : World) : Calls Try.prog 15 #[.agg #[.int .i64 x, .int .i64 y]] V fun e w' => e = .returned (.agg #[.int .i64 X, .int .i64 Y]) ∧ Below V.heap.size V w' := h.out V
theorem at_r {x y : Int} (hx : I64 x) (hy : I64 y) : AtR x y (bentI x) (bentI y) := ⟨fun V => at_any x y V hx hy⟩

structure PtR (x y k X Y : Int) : Prop where
  out : ∀ V, Calls Try.prog 14 #[.agg #[.int .i64 x, .int .i64 y], .int .i64 k] V fun e w' => ∃ bx by' : Nat, e = .returned (.agg #[.int .u64 bx, .int .u64 by']) ∧ Bt bx X k ∧ Bt by' Y k ∧ Below V.heap.size V w'
theorem PtR.use {x y k X Y : Int} (h : PtR x y k X Y) (V : World) : Calls Try.prog 14 #[.agg #[.int .i64 x, .int .i64 y], .int .i64 k] V fun e w' => ∃ bx by' : Nat, e = .returned (.agg #[.int .u64 bx, .int .u64 by']) ∧ Bt bx X k ∧ Bt by' Y k ∧ Below V.heap.size V w' := h.out V

set_option maxHeartbeats 4000000 in
set_option maxRecDepth 100000 in
theorem point_walk (x y k X Y : Int) (w : World) (ha : AtR x y X Y) (b1 : BiR X k) (b2 : BiR Y k) : Calls Try.prog 14 #[.agg #[.int .i64 x, .int .i64 y], .int .i64 k] w fun e w' => ∃ bx by' : Nat, e = .returned (.agg #[.int .u64 bx, .int .u64 by']) ∧ Bt bx X k ∧ Bt by' Y k ∧ Below w.heap.size w w' := by
  go_enter Try.func14, Try.ntmps14
  go_upto_region 2 with (go_at_call 15; go_must (refine (AtR.use (by assumption) _).mono ?_; rintro e w1 ⟨rfl, hb1⟩))
  have hs1 : w.heap.size + 2 ≤ w1.heap.size := by have := hb1.size; simp at this; omega
  have hbw : Below w.heap.size w w1 := below_step hb1 (((Below.refl _ w).alloc (by simp) _).alloc (by simp) _)
  have hR0 : w1.cell? ⟨w.heap.size + 1, 0, none⟩ = some (.int .u64 0) ∧ w1.cell? ⟨w.heap.size + 1, 1, none⟩ = some (.int .u64 0) ∧ w1.frozen? ⟨w.heap.size + 1, 0, none⟩ = false ∧ w1.frozen? ⟨w.heap.size + 1, 1, none⟩ = false := by
    obtain ⟨hc, hf⟩ := bcell hb1
    rw [hc _ _ (by simp), hc _ _ (by simp), hf _ _ (by simp), hf _ _ (by simp)]
    simp [go_sem]
  generalize hWd : World.alloc w1 _ = W
  have hw : Below w.heap.size w W := by subst hWd; exact hbw.alloc hbw.size _
  have KS : ∀ w' : World, (∀ b o, b ≠ w.heap.size + 1 → w'.cell? ⟨b, o, none⟩ = W.cell? ⟨b, o, none⟩) → (w'.cell? ⟨w1.heap.size, 0, none⟩ = some (.int .i64 X) ∧ w'.cell? ⟨w1.heap.size, 1, none⟩ = some (.int .i64 Y)) := by
    intro w' hc
    refine ⟨?_, ?_⟩
    all_goals (rw [hc _ _ (by omega)]; subst hWd; simp [go_sem])
  have hR : W.cell? ⟨w.heap.size + 1, 0, none⟩ = some (.int .u64 0) ∧ W.cell? ⟨w.heap.size + 1, 1, none⟩ = some (.int .u64 0) ∧ W.frozen? ⟨w.heap.size + 1, 0, none⟩ = false ∧ W.frozen? ⟨w.heap.size + 1, 1, none⟩ = false := by
    have hb := (Below.refl _ w1).alloc (Nat.le_refl _) (.cells #[.int .i64 X, .int .i64 Y] 32)
    obtain ⟨hc, hf⟩ := bcell hb
    rw [← hWd, hc _ _ (by omega), hc _ _ (by omega), hf _ _ (by omega), hf _ _ (by omega)]
    exact hR0
  clear hWd hR0 hb1
  have hS := KS W (fun _ _ _ => rfl)
  go_region_held3 (fun w' : World => (w'.cell? ⟨w1.heap.size, 0, none⟩ = some (.int .i64 X) ∧ w'.cell? ⟨w1.heap.size, 1, none⟩ = some (.int .i64 Y))) (first | exact KS _ (fun _ _ _ => rfl) | exact KS _ (fun b o h => (cell_store_other h).trans rfl)) (first | (go_at_call 20; have gg := hx; go_must (refine (BiR.use (by assumption) _).mono ?_; rintro e w2 ⟨b2', rfl, hy, rfl⟩)) | (go_at_call 20; go_must (refine (BiR.use (by assumption) _).mono ?_; rintro e w2 ⟨b1', rfl, hx, rfl⟩)))
  all_goals
    go_wp2
    refine bodyPost_ret (v := .agg #[.int .u64 b1', .int .u64 b2']) (by simp [results, Try.results14, go_sem, hR.1, hR.2.1]) rfl ⟨b1', b2', rfl, hx, hy, ?_⟩
    exact ((hw.drew).setCell (by simp) _).setCell (by simp) _

theorem point_r {x y k : Int} (hx : I64 x) (hy : I64 y) (hk : -100 ≤ k ∧ k ≤ 87) : PtR x y k (bentI x) (bentI y) :=
  ⟨fun V => point_walk x y k _ _ V (at_r hx hy) (bits_any _ _ (fit_bent (by have := bentI_range x; omega) hk)) (bits_any _ _ (fit_bent (by have := bentI_range y; omega) hk))⟩

/-- The unit of whole numbers times 2 to the power p. -/
def UQ (p : Int) : Int := 2 ^ (p + 100).toNat * 2 ^ 974
theorem UQ_pos (p : Int) : 0 < UQ p := Int.mul_pos (PlRd.two_pow_pos _) (PlRd.two_pow_pos 974)
theorem Bt.vb {b : Nat} {n p : Int} (h : Bt b n p) : valB b = n * UQ p := by
  rw [valB_crd h.may, h.val, Int.mul_assoc]
  rfl

def turnW (A B C : Int × Int) : Int := (B.1 - A.1) * (C.2 - A.2) - (B.2 - A.2) * (C.1 - A.1)
def distW (A B : Int × Int) : Int := (B.1 - A.1) * (B.1 - A.1) + (B.2 - A.2) * (B.2 - A.2)

theorem turn_units (ax ay bx b' cx cy U : Int) : (bx * U - ax * U) * (cy * U - ay * U) - (b' * U - ay * U) * (cx * U - ax * U) = ((bx - ax) * (cy - ay) - (b' - ay) * (cx - ax)) * (U * U) := by grind
theorem dist_units (ax ay bx b' cx cy U : Int) : ((cx * U - ax * U) * (cx * U - ax * U) + (cy * U - ay * U) * (cy * U - ay * U)) - ((bx * U - ax * U) * (bx * U - ax * U) + (b' * U - ay * U) * (b' * U - ay * U)) = (((cx - ax) * (cx - ax) + (cy - ay) * (cy - ay)) - ((bx - ax) * (bx - ax) + (b' - ay) * (b' - ay))) * (U * U) := by grind

theorem ok3 {ax ay bx by' cx cy : Nat} (h1 : mayB ax = true) (h2 : mayB ay = true) (h3 : mayB bx = true) (h4 : mayB by' = true) (h5 : mayB cx = true) (h6 : mayB cy = true) : okPts [(ax, ay), (bx, by'), (cx, cy)] = true := by simp [okPts, h1, h2, h3, h4, h5, h6]
theorem ok4 {ax ay bx by' cx cy dx dy : Nat} (h1 : mayB ax = true) (h2 : mayB ay = true) (h3 : mayB bx = true) (h4 : mayB by' = true) (h5 : mayB cx = true) (h6 : mayB cy = true) (h7 : mayB dx = true) (h8 : mayB dy = true) : okPts [(ax, ay), (bx, by'), (cx, cy), (dx, dy)] = true := by simp [okPts, h1, h2, h3, h4, h5, h6, h7, h8]

theorem l64_3 {a b c : Nat × Nat} (h1 : a.1 < 2 ^ 64 ∧ a.2 < 2 ^ 64) (h2 : b.1 < 2 ^ 64 ∧ b.2 < 2 ^ 64) (h3 : c.1 < 2 ^ 64 ∧ c.2 < 2 ^ 64) : L64 [a, b, c] := fun p hp => by
  simp only [List.mem_cons, List.not_mem_nil, or_false] at hp
  rcases hp with rfl | rfl | rfl <;> assumption
theorem l64_4 {a b c d : Nat × Nat} (h1 : a.1 < 2 ^ 64 ∧ a.2 < 2 ^ 64) (h2 : b.1 < 2 ^ 64 ∧ b.2 < 2 ^ 64) (h3 : c.1 < 2 ^ 64 ∧ c.2 < 2 ^ 64) (h4 : d.1 < 2 ^ 64 ∧ d.2 < 2 ^ 64) : L64 [a, b, c, d] := fun p hp => by
  simp only [List.mem_cons, List.not_mem_nil, or_false] at hp
  rcases hp with rfl | rfl | rfl | rfl <;> assumption

theorem orient_bt {ax ay bx by' cx cy : Nat} {AX AY BX BY CX CY p : Int} (h1 : Bt ax AX p) (h2 : Bt ay AY p) (h3 : Bt bx BX p) (h4 : Bt by' BY p) (h5 : Bt cx CX p) (h6 : Bt cy CY p) (V : World) :
    Calls Try.prog 10 #[.agg #[.int .u64 ax, .int .u64 ay], .agg #[.int .u64 bx, .int .u64 by'], .agg #[.int .u64 cx, .int .u64 cy]] V fun e w' => Below V.heap.size V w' ∧ e = .returned (.tuple #[.int .i64 (sgn (turnW (AX, AY) (BX, BY) (CX, CY))), .int .i64 0]) := by
  have h := orient_ok ax ay bx by' cx cy V (l64_3 ⟨h1.lt, h2.lt⟩ ⟨h3.lt, h4.lt⟩ ⟨h5.lt, h6.lt⟩) (ok3 h1.may h2.may h3.may h4.may h5.may h6.may)
  have e : sgn (turnV (ax, ay) (bx, by') (cx, cy)) = sgn (turnW (AX, AY) (BX, BY) (CX, CY)) := by
    unfold turnV turnW
    simp only [h1.vb, h2.vb, h3.vb, h4.vb, h5.vb, h6.vb]
    rw [turn_units, sgn_scale _ _ (Int.mul_pos (UQ_pos p) (UQ_pos p))]
  rwa [e] at h

theorem nearer_bt {ax ay bx by' cx cy : Nat} {AX AY BX BY CX CY p : Int} (h1 : Bt ax AX p) (h2 : Bt ay AY p) (h3 : Bt bx BX p) (h4 : Bt by' BY p) (h5 : Bt cx CX p) (h6 : Bt cy CY p) (V : World) :
    Calls Try.prog 21 #[.agg #[.int .u64 ax, .int .u64 ay], .agg #[.int .u64 bx, .int .u64 by'], .agg #[.int .u64 cx, .int .u64 cy]] V fun e w' => Below V.heap.size V w' ∧ e = .returned (.tuple #[.int .i64 (sgn (distW (AX, AY) (CX, CY) - distW (AX, AY) (BX, BY))), .int .i64 0]) := by
  have h := nearer_ok ax ay bx by' cx cy V (l64_3 ⟨h1.lt, h2.lt⟩ ⟨h3.lt, h4.lt⟩ ⟨h5.lt, h6.lt⟩) (ok3 h1.may h2.may h3.may h4.may h5.may h6.may)
  have e : sgn (distV (ax, ay) (cx, cy) - distV (ax, ay) (bx, by')) = sgn (distW (AX, AY) (CX, CY) - distW (AX, AY) (BX, BY)) := by
    unfold distV distW
    simp only [h1.vb, h2.vb, h3.vb, h4.vb, h5.vb, h6.vb]
    rw [dist_units, sgn_scale _ _ (Int.mul_pos (UQ_pos p) (UQ_pos p))]
  rwa [e] at h

end Go.Proofs.Ytbjjkfmdkmbcfaa
