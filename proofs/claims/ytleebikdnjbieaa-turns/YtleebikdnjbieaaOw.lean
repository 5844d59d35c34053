import Derived.Test.YtleebikdnjbieaaKw
namespace Go.Proofs.Ytleebikdnjbieaa
open Go.RowKit
open PlRd
open Ieee (double signed)

attribute [local go_sem ↓] Go.wp_at_zero Go.wp_at_succ

/-- What the bits stand for, in units; 0 where they are no number. -/
def valB (b : Nat) : Int :=
  match double.read b with
  | .number s m p => signed s m (p + 1074).toNat
  | _ => 0

theorem is_valB {b : Nat} {x : Int} (h : Is b x) : valB b = x := by
  obtain ⟨s, m, p, h1, _, _, _, h2⟩ := h
  unfold valB; rw [h1]; exact h2

theorem co_mayB {b : Nat} (h : mayB b = true) : Co b (valB b) := by
  obtain ⟨X, h1, h2, h3⟩ := co_of_mayB h
  rw [is_valB h1]
  exact ⟨h1, h2, Nat.le_of_lt h3⟩

/-- The turn, in units twice. -/
def turnV (a b c : Nat × Nat) : Int := (valB b.1 - valB a.1) * (valB c.2 - valB a.2) - (valB b.2 - valB a.2) * (valB c.1 - valB a.1)
def distV (a b : Nat × Nat) : Int := (valB b.1 - valB a.1) * (valB b.1 - valB a.1) + (valB b.2 - valB a.2) * (valB b.2 - valB a.2)

theorem sgn_mul (x c : Int) (hc : 0 < c) : sgn (x * c) = sgn x := by
  unfold sgn
  have h1 : (0 < x * c) ↔ 0 < x := by
    have := Int.mul_lt_mul_right (a := c) (b := 0) (c := x) hc
    rw [Int.zero_mul] at this
    exact this
  have h2 : (x * c < 0) ↔ x < 0 := by
    have := Int.mul_lt_mul_right (a := c) (b := x) (c := 0) hc
    rw [Int.zero_mul] at this
    exact this
  simp only [h1, h2]

theorem prod_sum {a b c d : Nat} {x y z t : Int} (hx : Co a x) (hy : Co b y) (hz : Co c z) (ht : Co d t) : (sumAll (prodParts (sumAll [x, y]) (sumAll [z, t]))).sum * 2 ^ 1074 = (x + y) * (z + t) := by
  rw [sumAll_sum, prodParts_sum (nm_two hx hy).dvd (nm_two hz ht).dvd (by decide), sumAll_sum, sumAll_sum]
  simp

theorem turn_sgn {ax ay bx by' cx cy : Nat} {AX AY BX BY CX CY : Int} (hax : Co ax AX) (hay : Co ay AY) (hbx : Co bx BX) (hby : Co by' BY) (hcx : Co cx CX) (hcy : Co cy CY) :
    sgn (sumAll (sumAll (prodParts (sumAll [BX, -AX]) (sumAll [CY, -AY])) ++ (sumAll (prodParts (sumAll [BY, -AY]) (sumAll [CX, -AX]))).map (- ·))).sum = sgn ((BX - AX) * (CY - AY) - (BY - AY) * (CX - AX)) := by
  have h1 := prod_sum hbx hax.neg hcy hay.neg
  have h2 := prod_sum hby hay.neg hcx hax.neg
  rw [← sgn_mul _ (2 ^ 1074) (two_pow_pos 1074), sumAll_sum, List.sum_append, sum_neg, Int.add_mul, Int.neg_mul, h1, h2]
  simp only [Int.sub_eq_add_neg]

theorem near_sgn {ax ay bx by' cx cy : Nat} {AX AY BX BY CX CY : Int} (hax : Co ax AX) (hay : Co ay AY) (hbx : Co bx BX) (hby : Co by' BY) (hcx : Co cx CX) (hcy : Co cy CY) :
    sgn (sumAll (sumAll (sumAll (prodParts (sumAll [CX, -AX]) (sumAll [CX, -AX])) ++ sumAll (prodParts (sumAll [CY, -AY]) (sumAll [CY, -AY]))) ++ (sumAll (sumAll (prodParts (sumAll [BX, -AX]) (sumAll [BX, -AX])) ++ sumAll (prodParts (sumAll [BY, -AY]) (sumAll [BY, -AY])))).map (- ·))).sum
      = sgn (((CX - AX) * (CX - AX) + (CY - AY) * (CY - AY)) - ((BX - AX) * (BX - AX) + (BY - AY) * (BY - AY))) := by
  have h1 := prod_sum hcx hax.neg hcx hax.neg
  have h2 := prod_sum hcy hay.neg hcy hay.neg
  have h3 := prod_sum hbx hax.neg hbx hax.neg
  have h4 := prod_sum hby hay.neg hby hay.neg
  rw [← sgn_mul _ (2 ^ 1074) (two_pow_pos 1074), sumAll_sum, List.sum_append, sum_neg, sumAll_sum, sumAll_sum, List.sum_append, List.sum_append, Int.add_mul, Int.neg_mul, Int.add_mul, Int.add_mul, h1, h2, h3, h4]
  simp only [Int.sub_eq_add_neg]

theorem pts3 {w : World} {g : Nat} {ax ay bx by' cx cy : Nat} (h0 : w.cell? ⟨g, 0, none⟩ = some (.int .u64 ax)) (h1 : w.cell? ⟨g, 1, none⟩ = some (.int .u64 ay)) (h2 : w.cell? ⟨g, 2, none⟩ = some (.int .u64 bx)) (h3 : w.cell? ⟨g, 3, none⟩ = some (.int .u64 by'))
    (h4 : w.cell? ⟨g, 4, none⟩ = some (.int .u64 cx)) (h5 : w.cell? ⟨g, 5, none⟩ = some (.int .u64 cy)) : PtsAt w g 0 [(ax, ay), (bx, by'), (cx, cy)] := by
  intro t ht
  match t, ht with
  | 0, _ => exact ⟨h0, h1⟩
  | 1, _ => exact ⟨h2, h3⟩
  | 2, _ => exact ⟨h4, h5⟩

theorem own_cells6 {w : World} {base g : Nat} {a b c d e f : Value} (h : w.ownsRow base 74 2 (.slice (some ⟨g, 0, none⟩) 3 3) 3 [a, b, c, d, e, f]) :
    (w.cell? ⟨g, 0, none⟩ = some a ∧ w.cell? ⟨g, 1, none⟩ = some b ∧ w.cell? ⟨g, 2, none⟩ = some c ∧ w.cell? ⟨g, 3, none⟩ = some d ∧ w.cell? ⟨g, 4, none⟩ = some e ∧ w.cell? ⟨g, 5, none⟩ = some f) ∧ g < w.heap.size :=
  ⟨⟨h.cellAt 0 (by decide), h.cellAt 1 (by decide), h.cellAt 2 (by decide), h.cellAt 3 (by decide), h.cellAt 4 (by decide), h.cellAt 5 (by decide)⟩, (h.lt g rfl).2⟩

theorem ret2_int {a b : Int} (h : a = b) : Ending.returned (.tuple #[.int .i64 a, .int .i64 0]) = .returned (.tuple #[.int .i64 b, .int .i64 0]) := by rw [h]

theorem spots3_no (g ax ay bx by' cx cy : Nat) (w : World) (h64 : ∀ p ∈ [(ax, ay), (bx, by'), (cx, cy)], p.1 < 2 ^ 64 ∧ p.2 < 2 ^ 64) (h0 : w.cell? ⟨g, 0, none⟩ = some (.int .u64 ax)) (h1 : w.cell? ⟨g, 1, none⟩ = some (.int .u64 ay)) (h2 : w.cell? ⟨g, 2, none⟩ = some (.int .u64 bx)) (h3 : w.cell? ⟨g, 3, none⟩ = some (.int .u64 by')) (h4 : w.cell? ⟨g, 4, none⟩ = some (.int .u64 cx)) (h5 : w.cell? ⟨g, 5, none⟩ = some (.int .u64 cy)) (hg : g < w.heap.size) (hok : okPts [(ax, ay), (bx, by'), (cx, cy)] = false) :
    Calls Try.prog 30 #[.slice (some ⟨g, 0, none⟩) 3 3] w fun e w' => Below w.heap.size w w' ∧ e = .returned (.tuple #[.slice none 0 0, .int .i64 1]) := by
  refine (spots_walk g 3 3 [(ax, ay), (bx, by'), (cx, cy)] w rfl (by decide) hg (pts3 h0 h1 h2 h3 h4 h5) h64).mono ?_
  rintro e w' ⟨hb, ⟨h1, _⟩ | ⟨_, rfl⟩⟩
  · rw [hok] at h1; cases h1
  · exact ⟨hb, rfl⟩

theorem spots3_ok (g ax ay bx by' cx cy : Nat) (w : World) (h64 : ∀ p ∈ [(ax, ay), (bx, by'), (cx, cy)], p.1 < 2 ^ 64 ∧ p.2 < 2 ^ 64) (h0 : w.cell? ⟨g, 0, none⟩ = some (.int .u64 ax)) (h1 : w.cell? ⟨g, 1, none⟩ = some (.int .u64 ay)) (h2 : w.cell? ⟨g, 2, none⟩ = some (.int .u64 bx)) (h3 : w.cell? ⟨g, 3, none⟩ = some (.int .u64 by')) (h4 : w.cell? ⟨g, 4, none⟩ = some (.int .u64 cx)) (h5 : w.cell? ⟨g, 5, none⟩ = some (.int .u64 cy)) (hg : g < w.heap.size) (hok : okPts [(ax, ay), (bx, by'), (cx, cy)] = true) :
    Calls Try.prog 30 #[.slice (some ⟨g, 0, none⟩) 3 3] w fun e w' => Below w.heap.size w w' ∧ e = .returned (.tuple #[.slice (some ⟨w.heap.size, 0, none⟩) 3 3, .int .i64 0]) ∧ (w'.cell? ⟨w.heap.size, 0, none⟩ = some (.float .f64 ax) ∧ w'.cell? ⟨w.heap.size, 1, none⟩ = some (.float .f64 ay) ∧ w'.cell? ⟨w.heap.size, 2, none⟩ = some (.float .f64 bx) ∧ w'.cell? ⟨w.heap.size, 3, none⟩ = some (.float .f64 by') ∧ w'.cell? ⟨w.heap.size, 4, none⟩ = some (.float .f64 cx) ∧ w'.cell? ⟨w.heap.size, 5, none⟩ = some (.float .f64 cy)) ∧ w.heap.size < w'.heap.size := by
  refine (spots_walk g 3 3 [(ax, ay), (bx, by'), (cx, cy)] w rfl (by decide) hg (pts3 h0 h1 h2 h3 h4 h5) h64).mono ?_
  rintro e w' ⟨hb, ⟨_, rfl, hown⟩ | ⟨h1, _⟩⟩
  · obtain ⟨hc, hl⟩ := own_cells6 hown
    exact ⟨hb, rfl, hc, hl⟩
  · rw [hok] at h1; cases h1

theorem below_cells6 {W W' : World} {G : Nat} {a b c d e f : Value} (h : (W.cell? ⟨G, 0, none⟩ = some a ∧ W.cell? ⟨G, 1, none⟩ = some b ∧ W.cell? ⟨G, 2, none⟩ = some c ∧ W.cell? ⟨G, 3, none⟩ = some d ∧ W.cell? ⟨G, 4, none⟩ = some e ∧ W.cell? ⟨G, 5, none⟩ = some f)) (hG : G < W.heap.size) (hb : Below W.heap.size W W') :
    (W'.cell? ⟨G, 0, none⟩ = some a ∧ W'.cell? ⟨G, 1, none⟩ = some b ∧ W'.cell? ⟨G, 2, none⟩ = some c ∧ W'.cell? ⟨G, 3, none⟩ = some d ∧ W'.cell? ⟨G, 4, none⟩ = some e ∧ W'.cell? ⟨G, 5, none⟩ = some f) ∧ Below W.heap.size W W' := by
  obtain ⟨hc, _⟩ := bcell hb
  rw [hc _ _ hG, hc _ _ hG, hc _ _ hG, hc _ _ hG, hc _ _ hG, hc _ _ hG]
  exact ⟨h, hb⟩

set_option maxHeartbeats 2000000 in
set_option maxRecDepth 100000 in
theorem orient_no (ax ay bx by' cx cy : Nat) (w : World) (h64 : ∀ p ∈ [(ax, ay), (bx, by'), (cx, cy)], p.1 < 2 ^ 64 ∧ p.2 < 2 ^ 64) (hok : okPts [(ax, ay), (bx, by'), (cx, cy)] = false) :
    Calls Try.prog 11 #[.agg #[.int .u64 ax, .int .u64 ay], .agg #[.int .u64 bx, .int .u64 by'], .agg #[.int .u64 cx, .int .u64 cy]] w fun e w' => Below w.heap.size w w' ∧ e = .returned (.tuple #[.int .i64 0, .int .i64 1]) := by
  go_enter Try.func11, Try.ntmps11
  go_wp2_with (go_at_call 30; refine (spots3_no _ ax ay bx by' cx cy _ h64 (by simp [go_sem]) (by simp [go_sem]) (by simp [go_sem]) (by simp [go_sem]) (by simp [go_sem]) (by simp [go_sem]) (by simp) hok).mono ?_; rintro e w' ⟨hb, rfl⟩)
  go_ret2
  refine ⟨Below.trans ?_ (hb.mono (by simp; omega)), rfl⟩
  repeat (first | exact Below.refl _ _ | refine Below.drew ?_ | refine Below.alloc ?_ (by simp <;> omega) _)

set_option maxHeartbeats 2000000 in
set_option maxRecDepth 100000 in
theorem nearer_no (ax ay bx by' cx cy : Nat) (w : World) (h64 : ∀ p ∈ [(ax, ay), (bx, by'), (cx, cy)], p.1 < 2 ^ 64 ∧ p.2 < 2 ^ 64) (hok : okPts [(ax, ay), (bx, by'), (cx, cy)] = false) :
    Calls Try.prog 12 #[.agg #[.int .u64 ax, .int .u64 ay], .agg #[.int .u64 bx, .int .u64 by'], .agg #[.int .u64 cx, .int .u64 cy]] w fun e w' => Below w.heap.size w w' ∧ e = .returned (.tuple #[.int .i64 0, .int .i64 1]) := by
  go_enter Try.func12, Try.ntmps12
  go_wp2_with (go_at_call 30; refine (spots3_no _ ax ay bx by' cx cy _ h64 (by simp [go_sem]) (by simp [go_sem]) (by simp [go_sem]) (by simp [go_sem]) (by simp [go_sem]) (by simp [go_sem]) (by simp) hok).mono ?_; rintro e w' ⟨hb, rfl⟩)
  go_ret2
  refine ⟨Below.trans ?_ (hb.mono (by simp; omega)), rfl⟩
  repeat (first | exact Below.refl _ _ | refine Below.drew ?_ | refine Below.alloc ?_ (by simp <;> omega) _)

theorem cos_of_ok {ax ay bx by' cx cy : Nat} (hok : okPts [(ax, ay), (bx, by'), (cx, cy)] = true) : (Co ax (valB ax) ∧ Co ay (valB ay)) ∧ (Co bx (valB bx) ∧ Co by' (valB by')) ∧ (Co cx (valB cx) ∧ Co cy (valB cy)) := by
  have hm : (mayB ax = true ∧ mayB ay = true) ∧ (mayB bx = true ∧ mayB by' = true) ∧ (mayB cx = true ∧ mayB cy = true) := by simpa [okPts] using hok
  exact ⟨⟨co_mayB hm.1.1, co_mayB hm.1.2⟩, ⟨co_mayB hm.2.1.1, co_mayB hm.2.1.2⟩, ⟨co_mayB hm.2.2.1, co_mayB hm.2.2.2⟩⟩

set_option maxHeartbeats 2000000 in
set_option maxRecDepth 100000 in
theorem orient_ok (ax ay bx by' cx cy : Nat) (w : World) (h64 : ∀ p ∈ [(ax, ay), (bx, by'), (cx, cy)], p.1 < 2 ^ 64 ∧ p.2 < 2 ^ 64) (hok : okPts [(ax, ay), (bx, by'), (cx, cy)] = true) :
    Calls Try.prog 11 #[.agg #[.int .u64 ax, .int .u64 ay], .agg #[.int .u64 bx, .int .u64 by'], .agg #[.int .u64 cx, .int .u64 cy]] w fun e w' => Below w.heap.size w w' ∧ e = .returned (.tuple #[.int .i64 (sgn (turnV (ax, ay) (bx, by') (cx, cy))), .int .i64 0]) := by
  obtain ⟨⟨hax, hay⟩, ⟨hbx, hby⟩, ⟨hcx, hcy⟩⟩ := cos_of_ok hok
  have HT : Hid (sgn (sumAll (sumAll (prodParts (sumAll [valB bx, -valB ax]) (sumAll [valB cy, -valB ay])) ++ (sumAll (prodParts (sumAll [valB by', -valB ay]) (sumAll [valB cx, -valB ax]))).map (- ·))).sum = sgn (turnV (ax, ay) (bx, by') (cx, cy))) := turn_sgn hax hay hbx hby hcx hcy
  have pl : Nm (sumAll (prodParts (sumAll [valB bx, -valB ax]) (sumAll [valB cy, -valB ay]))) 874 3 1283 := ((nm_two hbx hax.neg).prod (nm_two hcy hay.neg) (by decide) (by decide)).sum
  have pr : Nm (sumAll (prodParts (sumAll [valB by', -valB ay]) (sumAll [valB cx, -valB ax]))) 874 3 1283 := ((nm_two hby hay.neg).prod (nm_two hcx hax.neg) (by decide) (by decide)).sum
  have hNm : Nm _ 874 4 1288 := (pl.toPa.append pr.toPa.neg).sum
  have HC : Hid (∀ W, Calls Try.prog 31 #[.agg #[.float .f64 ax, .float .f64 ay], .agg #[.float .f64 bx, .float .f64 by'], .agg #[.float .f64 cx, .float .f64 cy]] W fun e w' => ∃ v' ds, e = .returned v' ∧ NumS w' 0 v' ds ∧ IsL ds _ ∧ Below W.heap.size W w') := fun W => turn_any ax ay bx by' cx cy _ _ _ _ _ _ W hax hay hbx hby hcx hcy
  clear pl pr hax hay hbx hby hcx hcy
  generalize sumAll (sumAll (prodParts (sumAll [valB bx, -valB ax]) (sumAll [valB cy, -valB ay])) ++ (sumAll (prodParts (sumAll [valB by', -valB ay]) (sumAll [valB cx, -valB ax]))).map (- ·)) = TS at *
  have hno := hNm.no
  have hlen := len_of hNm.len (by decide)
  clear hNm
  go_enter Try.func11, Try.ntmps11
  go_wp2_with (go_at_call 30; refine (spots3_ok _ ax ay bx by' cx cy _ h64 (by simp [go_sem]) (by simp [go_sem]) (by simp [go_sem]) (by simp [go_sem]) (by simp [go_sem]) (by simp [go_sem]) (by simp) hok).mono ?_; rintro e W ⟨hb, rfl, hcs, hG⟩)
  have hbw : Below w.heap.size w W := by
    refine Below.trans ?_ (hb.mono (by simp; omega))
    repeat (first | exact Below.refl _ _ | refine Below.drew ?_ | refine Below.alloc ?_ (by simp <;> omega) _)
  simp only [World.size_alloc] at hcs hG
  have KS : ∀ w', Below W.heap.size W w' → (w'.cell? ⟨(w.heap.size + 1 + 1 + 1 + 1), 0, none⟩ = some (.float .f64 ax) ∧ w'.cell? ⟨(w.heap.size + 1 + 1 + 1 + 1), 1, none⟩ = some (.float .f64 ay) ∧ w'.cell? ⟨(w.heap.size + 1 + 1 + 1 + 1), 2, none⟩ = some (.float .f64 bx) ∧ w'.cell? ⟨(w.heap.size + 1 + 1 + 1 + 1), 3, none⟩ = some (.float .f64 by') ∧ w'.cell? ⟨(w.heap.size + 1 + 1 + 1 + 1), 4, none⟩ = some (.float .f64 cx) ∧ w'.cell? ⟨(w.heap.size + 1 + 1 + 1 + 1), 5, none⟩ = some (.float .f64 cy)) ∧ Below W.heap.size W w' := fun w' h => below_cells6 hcs hG h
  have hS0 := KS W (Below.refl _ _)
  clear hb hcs
  go_region_held3 (fun w' => (w'.cell? ⟨(w.heap.size + 1 + 1 + 1 + 1), 0, none⟩ = some (.float .f64 ax) ∧ w'.cell? ⟨(w.heap.size + 1 + 1 + 1 + 1), 1, none⟩ = some (.float .f64 ay) ∧ w'.cell? ⟨(w.heap.size + 1 + 1 + 1 + 1), 2, none⟩ = some (.float .f64 bx) ∧ w'.cell? ⟨(w.heap.size + 1 + 1 + 1 + 1), 3, none⟩ = some (.float .f64 by') ∧ w'.cell? ⟨(w.heap.size + 1 + 1 + 1 + 1), 4, none⟩ = some (.float .f64 cx) ∧ w'.cell? ⟨(w.heap.size + 1 + 1 + 1 + 1), 5, none⟩ = some (.float .f64 cy)) ∧ Below W.heap.size W w') (first | exact KS _ (Below.refl _ _).drew | (go_split_ands; first | exact KS _ (below_step hb2 (by assumption)) | exact KS _ (below_step hb1 (by assumption)) | exact KS _ (Below.drew (by assumption)) | exact KS _ (by assumption))) (first | (go_at_call 31; refine (HC.out _).mono ?_; rintro e w1 ⟨v1, cs1, rfl, hn1, hi1, hb1⟩; have hl1 : cs1.length ≤ 1000000 := (by rw [hi1.length]; omega)) | (go_at_call 32; refine (sign_any _ 0 cs1 TS _ hn1.1 hl1 hi1 hno).mono ?_; rintro e w2 ⟨rfl, rfl⟩))
  all_goals
    go_wp2
    go_ret2
    refine ⟨?_, ret2_int HT.out⟩
    refine hbw.trans (Below.mono (B := W.heap.size) ?_ hbw.size)
    go_split_ands
    assumption

set_option maxHeartbeats 4000000 in
set_option maxRecDepth 100000 in
theorem nearer_ok (ax ay bx by' cx cy : Nat) (w : World) (h64 : ∀ p ∈ [(ax, ay), (bx, by'), (cx, cy)], p.1 < 2 ^ 64 ∧ p.2 < 2 ^ 64) (hok : okPts [(ax, ay), (bx, by'), (cx, cy)] = true) :
    Calls Try.prog 12 #[.agg #[.int .u64 ax, .int .u64 ay], .agg #[.int .u64 bx, .int .u64 by'], .agg #[.int .u64 cx, .int .u64 cy]] w fun e w' => Below w.heap.size w w' ∧ e = .returned (.tuple #[.int .i64 (sgn (distV (ax, ay) (cx, cy) - distV (ax, ay) (bx, by'))), .int .i64 0]) := by
  obtain ⟨⟨hax, hay⟩, ⟨hbx, hby⟩, ⟨hcx, hcy⟩⟩ := cos_of_ok hok
  have HT : Hid (sgn (sumAll (sumAll (sumAll (prodParts (sumAll [valB cx, -valB ax]) (sumAll [valB cx, -valB ax])) ++ sumAll (prodParts (sumAll [valB cy, -valB ay]) (sumAll [valB cy, -valB ay]))) ++ (sumAll (sumAll (prodParts (sumAll [valB bx, -valB ax]) (sumAll [valB bx, -valB ax])) ++ sumAll (prodParts (sumAll [valB by', -valB ay]) (sumAll [valB by', -valB ay])))).map (- ·))).sum = sgn (distV (ax, ay) (cx, cy) - distV (ax, ay) (bx, by'))) := near_sgn hax hay hbx hby hcx hcy
  have pb : Nm (sumAll (sumAll (prodParts (sumAll [valB bx, -valB ax]) (sumAll [valB bx, -valB ax])) ++ sumAll (prodParts (sumAll [valB by', -valB ay]) (sumAll [valB by', -valB ay])))) 874 4 1288 := (((nm_two hbx hax.neg).prod (nm_two hbx hax.neg) (by decide) (by decide)).sum.toPa.append ((nm_two hby hay.neg).prod (nm_two hby hay.neg) (by decide) (by decide)).sum.toPa).sum
  have pc : Nm (sumAll (sumAll (prodParts (sumAll [valB cx, -valB ax]) (sumAll [valB cx, -valB ax])) ++ sumAll (prodParts (sumAll [valB cy, -valB ay]) (sumAll [valB cy, -valB ay])))) 874 4 1288 := (((nm_two hcx hax.neg).prod (nm_two hcx hax.neg) (by decide) (by decide)).sum.toPa.append ((nm_two hcy hay.neg).prod (nm_two hcy hay.neg) (by decide) (by decide)).sum.toPa).sum
  have HB : Hid (∀ W, Calls Try.prog 33 #[.agg #[.float .f64 ax, .float .f64 ay], .agg #[.float .f64 bx, .float .f64 by']] W fun e w' => ∃ v' ds, e = .returned v' ∧ NumS w' 0 v' ds ∧ IsL ds (sumAll (sumAll (prodParts (sumAll [valB bx, -valB ax]) (sumAll [valB bx, -valB ax])) ++ sumAll (prodParts (sumAll [valB by', -valB ay]) (sumAll [valB by', -valB ay])))) ∧ Below W.heap.size W w') := fun W => distance2_any ax ay bx by' _ _ _ _ W hax hay hbx hby
  have HC : Hid (∀ W, Calls Try.prog 33 #[.agg #[.float .f64 ax, .float .f64 ay], .agg #[.float .f64 cx, .float .f64 cy]] W fun e w' => ∃ v' ds, e = .returned v' ∧ NumS w' 0 v' ds ∧ IsL ds (sumAll (sumAll (prodParts (sumAll [valB cx, -valB ax]) (sumAll [valB cx, -valB ax])) ++ sumAll (prodParts (sumAll [valB cy, -valB ay]) (sumAll [valB cy, -valB ay])))) ∧ Below W.heap.size W w') := fun W => distance2_any ax ay cx cy _ _ _ _ W hax hay hcx hcy
  clear hax hay hbx hby hcx hcy
  generalize sumAll (sumAll (prodParts (sumAll [valB bx, -valB ax]) (sumAll [valB bx, -valB ax])) ++ sumAll (prodParts (sumAll [valB by', -valB ay]) (sumAll [valB by', -valB ay]))) = DB at *
  generalize sumAll (sumAll (prodParts (sumAll [valB cx, -valB ax]) (sumAll [valB cx, -valB ax])) ++ sumAll (prodParts (sumAll [valB cy, -valB ay]) (sumAll [valB cy, -valB ay]))) = DC at *
  have HP : Hid (Pa DC 874 4 1288 ∧ Pa (DB.map (- ·)) 874 4 1288) := ⟨pc.toPa, pb.toPa.neg⟩
  have hNm : Nm (sumAll (DC ++ DB.map (- ·))) 874 5 1294 := (pc.toPa.append pb.toPa.neg).sum
  have hno := hNm.no
  have hlen := len_of hNm.len (by decide)
  have hlb := len_of pb.len (by decide)
  clear hNm pb pc
  go_enter Try.func12, Try.ntmps12
  go_wp2_with (go_at_call 30; refine (spots3_ok _ ax ay bx by' cx cy _ h64 (by simp [go_sem]) (by simp [go_sem]) (by simp [go_sem]) (by simp [go_sem]) (by simp [go_sem]) (by simp [go_sem]) (by simp) hok).mono ?_; rintro e W ⟨hb, rfl, hcs, hG⟩)
  have hbw : Below w.heap.size w W := by
    refine Below.trans ?_ (hb.mono (by simp; omega))
    repeat (first | exact Below.refl _ _ | refine Below.drew ?_ | refine Below.alloc ?_ (by simp <;> omega) _)
  simp only [World.size_alloc] at hcs hG
  have KS : ∀ w', Below W.heap.size W w' → (w'.cell? ⟨(w.heap.size + 1 + 1 + 1 + 1), 0, none⟩ = some (.float .f64 ax) ∧ w'.cell? ⟨(w.heap.size + 1 + 1 + 1 + 1), 1, none⟩ = some (.float .f64 ay) ∧ w'.cell? ⟨(w.heap.size + 1 + 1 + 1 + 1), 2, none⟩ = some (.float .f64 bx) ∧ w'.cell? ⟨(w.heap.size + 1 + 1 + 1 + 1), 3, none⟩ = some (.float .f64 by') ∧ w'.cell? ⟨(w.heap.size + 1 + 1 + 1 + 1), 4, none⟩ = some (.float .f64 cx) ∧ w'.cell? ⟨(w.heap.size + 1 + 1 + 1 + 1), 5, none⟩ = some (.float .f64 cy)) ∧ Below W.heap.size W w' := fun w' h => below_cells6 hcs hG h
  have hS0 := KS W (Below.refl _ _)
  clear hb hcs
  go_cut [10, 11] (fun v10 v11 wc => ∃ db dc, NumS wc 0 v10 db ∧ IsL db DB ∧ NumS wc 0 v11 dc ∧ IsL dc DC ∧ Below W.heap.size W wc)
  case first =>
    go_region_held3 (fun w' => (w'.cell? ⟨(w.heap.size + 1 + 1 + 1 + 1), 0, none⟩ = some (.float .f64 ax) ∧ w'.cell? ⟨(w.heap.size + 1 + 1 + 1 + 1), 1, none⟩ = some (.float .f64 ay) ∧ w'.cell? ⟨(w.heap.size + 1 + 1 + 1 + 1), 2, none⟩ = some (.float .f64 bx) ∧ w'.cell? ⟨(w.heap.size + 1 + 1 + 1 + 1), 3, none⟩ = some (.float .f64 by') ∧ w'.cell? ⟨(w.heap.size + 1 + 1 + 1 + 1), 4, none⟩ = some (.float .f64 cx) ∧ w'.cell? ⟨(w.heap.size + 1 + 1 + 1 + 1), 5, none⟩ = some (.float .f64 cy)) ∧ Below W.heap.size W w') (first | exact KS _ (Below.refl _ _).drew | (go_split_ands; first | exact KS _ (below_step hb2 (by assumption)) | exact KS _ (below_step hb1 (by assumption)) | exact KS _ (Below.drew (by assumption)) | exact KS _ (by assumption))) (first | (go_at_call 33; have hb1' := hb1; refine (HC.out _).mono ?_; rintro e w2 ⟨v2, cs2, rfl, hn2, hi2, hb2⟩) | (go_at_call 33; refine (HB.out _).mono ?_; rintro e w1 ⟨v1, cs1, rfl, hn1, hi1, hb1⟩))
    all_goals
      go_wp2_with fail
      go_meet
      exact ⟨cs1, cs2, hn1.kept hb2, hi1, hn2, hi2, by go_split_ands; assumption⟩
  case rest =>
    obtain ⟨db, dc, hn10, hi10, hn11, hi11, hbc⟩ := hcut
    have hin := negs_is hi10
    have hl10 : db.length ≤ 1000000 := by rw [hi10.length]; omega
    obtain ⟨g11, c11, hv11, _, _, _⟩ := hn11.cases
    subst hv11
    clear KS hS0
    go_wp2_with (first | (go_at_call 35; refine (negative_any _ 0 db _ hn10.1 hl10).mono ?_; rintro e w4 ⟨v4, rfl, hn4, hb4⟩; have hn7 := hn11.kept hb4; have hn4' := hn4.base (Nat.zero_le _); obtain ⟨g4, c4, hv4, _, _, _⟩ := hn4.cases; subst hv4) | (go_at_call 34; refine (total2 _ _ _ _ _ _ 874 4 1288 _ 70 hn7 hn4' hi11 hin HP.out.1 HP.out.2 (by decide) (by decide)).mono ?_; rintro e w5 ⟨v5, cs5, rfl, hn5, hi5, hb5⟩; have hl5 : cs5.length ≤ 1000000 := (by rw [hi5.length]; omega)) | (go_at_call 32; refine (sign_any _ 0 cs5 _ _ hn5.1 hl5 hi5 hno).mono ?_; rintro e w6 ⟨rfl, rfl⟩))
    go_ret2
    refine ⟨?_, ret2_int HT.out⟩
    exact hbw.trans ((below_step hb5 (below_step hb4 hbc)).mono hbw.size)

end Go.Proofs.Ytleebikdnjbieaa
