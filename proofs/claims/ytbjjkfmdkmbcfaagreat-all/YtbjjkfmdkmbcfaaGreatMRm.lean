import Derived.Test.YtbjjkfmdkmbcfaaGreatMRj
namespace Go.Proofs.YtbjjkfmdkmbcfaaGreat
open Go.RowKit
open PlLv
open Ieee (double signed)

attribute [local go_sem ↓] Go.wp_at_zero Go.wp_at_succ

set_option maxHeartbeats 1000000 in
set_option maxRecDepth 100000 in
theorem number_inf (b : Nat) (ng : Bool) (w : World) (hb : (b : Int) ≤ 18446744073709551615) (r1 : (b : Int) / 4503599627370496 % 2048 = 2047) (_r3 : decide (9223372036854775808 ≤ b) = ng) :
    Calls Tryz.prog 34 #[.int .u64 b] w fun e w' => Below w.heap.size w w' ∧ e = .returned (.tuple #[.agg #[.bool false, .slice none 0 0], .bool false]) := by
  go_enter Tryz.func34, Tryz.ntmps34
  go_wp2
  refine bodyPost_ret (v := .tuple #[.agg #[.bool false, .slice none 0 0], .bool false]) (by simp [results, Tryz.results34, go_sem]) rfl ⟨?_, rfl⟩
  exact (Below.refl _ _).alloc (Nat.le_refl _) _

set_option maxHeartbeats 1000000 in
set_option maxRecDepth 100000 in
theorem number_zero (b : Nat) (ng : Bool) (w : World) (hb : (b : Int) ≤ 18446744073709551615) (r1 : (b : Int) / 4503599627370496 % 2048 = 0) (r2 : (b : Int) % 4503599627370496 = 0) (_r3 : decide (9223372036854775808 ≤ b) = ng) :
    Calls Tryz.prog 34 #[.int .u64 b] w fun e w' => Below w.heap.size w w' ∧ e = .returned (.tuple #[.agg #[.bool false, .slice none 0 0], .bool true]) := by
  go_enter Tryz.func34, Tryz.ntmps34
  go_wp2
  refine bodyPost_ret (v := .tuple #[.agg #[.bool false, .slice none 0 0], .bool true]) (by simp [results, Tryz.results34, go_sem]) rfl ⟨?_, rfl⟩
  exact (Below.refl _ _).alloc (Nat.le_refl _) _

/-- May it be, by its magnitude in units. -/
def okV (V : Nat) : Prop := V < 2 ^ 1174 ∧ 2 ^ 974 ∣ V

/-- A whole number of the document's units, in units. -/
def upU (n : Nat) : Nat := n * 2 ^ 974

theorem pow_lt_scale {N a b c : Nat} (hc : c = a + b) (h : N < 2 ^ a) : N * 2 ^ b < 2 ^ c := by
  rw [hc, Nat.pow_add]
  exact Nat.mul_lt_mul_of_pos_right h (Nat.two_pow_pos b)

theorem pow_le_scale {N a b c : Nat} (hc : c = a + b) (h : 2 ^ a ≤ N) : 2 ^ c ≤ N * 2 ^ b := by
  rw [hc, Nat.pow_add]
  exact Nat.mul_le_mul_right _ h

theorem okV_yes {N V : Nat} (h : N < 2 ^ 200) (hV : V = N * 2 ^ 974) : okV V := by
  unfold okV
  rw [hV]
  exact ⟨pow_lt_scale (a := 200) (b := 974) (c := 1174) rfl h, Nat.dvd_mul_left ..⟩

theorem okV_big {N V : Nat} (h : 2 ^ 200 ≤ N) (hV : V = N * 2 ^ 974) : ¬ okV V := by
  intro hk
  have h1 := hk.1
  rw [hV] at h1
  exact absurd (Nat.lt_of_le_of_lt (pow_le_scale (a := 200) (b := 974) (c := 1174) rfl h) h1) (Nat.lt_irrefl _)

theorem okV_odd {M j V : Nat} (h : M % 2 = 1) (hj : j < 974) (hV : V = M * 2 ^ j) : ¬ okV V := by
  intro hk
  have h2 := hk.2
  rw [hV] at h2
  exact not_dvd_odd h hj h2

theorem number_row {w W : World} (hb : Below (w.alloc (.cells #[.bool false, .slice none 0 0] 53)).heap.size (w.alloc (.cells #[.bool false, .slice none 0 0] 53)) W) : (W.cell? ⟨w.heap.size, 0, none⟩ = some (.bool false) ∧ W.cell? ⟨w.heap.size, 1, none⟩ = some (.slice none 0 0) ∧ W.frozen? ⟨w.heap.size, 0, none⟩ = false ∧ W.frozen? ⟨w.heap.size, 1, none⟩ = false) ∧ (∀ cur, W.heap[w.heap.size]? ≠ some (.cells cur 105 (0, 0))) := by
  obtain ⟨hc, hf⟩ := bcell hb
  rw [hc _ _ (by simp), hc _ _ (by simp), hf _ _ (by simp), hf _ _ (by simp), hb.block _ (by simp)]
  refine ⟨by simp [go_sem], fun cur h => ?_⟩
  rw [heap_alloc_new] at h
  simp at h

set_option maxHeartbeats 2000000 in
set_option maxRecDepth 100000 in
theorem number_main (b e0 m0 V : Nat) (ng : Bool) (w : World) (hb : (b : Int) ≤ 18446744073709551615) (r1 : (b : Int) / 4503599627370496 % 2048 = (e0 : Int)) (r2 : (b : Int) % 4503599627370496 = (m0 : Int)) (r3 : Hid (decide ((9223372036854775808 : Int) ≤ (b : Int)) = ng))
    (hm0 : m0 < 4503599627370496) (he0 : e0 < 2047) (hcase : (e0 = 0 ∧ 0 < m0 ∧ V = m0 * 2 ^ 0) ∨ (0 < e0 ∧ V = (m0 + 4503599627370496) * 2 ^ (e0 - 1))) :
    Calls Tryz.prog 34 #[.int .u64 b] w fun e w' => Below w.heap.size w w' ∧ ((okV V ∧ ∃ v ls, e = .returned (.tuple #[.agg #[.bool ng, v], .bool true]) ∧ Lim w' v ls ∧ Tr ls ∧ V = upU (lv ls) ∧ ls ≠ []) ∨
      (¬ okV V ∧ e = .returned (.tuple #[.agg #[.bool false, .slice none 0 0], .bool false]))) := by
  have hV : ∃ M k : Nat, M ≠ 0 ∧ M < 9007199254740992 ∧ k ≤ 2046 ∧ V = M * 2 ^ k ∧ ((e0 = 0 ∧ (0 : Int) < (m0 : Int) ∧ M = m0 ∧ k = 0) ∨ ((0 : Int) < (e0 : Int) ∧ M = m0 + 4503599627370496 ∧ k + 1 = e0)) := by
    rcases hcase with ⟨h1, h2, h3⟩ | ⟨h1, h2⟩
    · exact ⟨m0, 0, by omega, by omega, by omega, h3, .inl ⟨h1, by omega, rfl, rfl⟩⟩
    · exact ⟨m0 + 4503599627370496, e0 - 1, by omega, by omega, by omega, h2, .inr ⟨by omega, rfl, by omega⟩⟩
  obtain ⟨M, k, hM0, hM, hk, hVM, hor⟩ := hV
  have HV : Hid (V = M * 2 ^ k) := hVM
  clear hcase hVM
  rcases hor with ⟨rfl, h2, rfl, rfl⟩ | ⟨h1, rfl, h2⟩
  all_goals
    go_enter Tryz.func34, Tryz.ntmps34
    go_wp2
    go_loop [5, 7] (fun sm ss => ∃ M' j : Nat, sm = .int .u64 M' ∧ ss = .int .i64 ((j : Int) - 974) ∧ M' ≠ 0 ∧ M' < 9007199254740992 ∧ j ≤ 2046 ∧ V = M' * 2 ^ j) (fun sm _ => (intOf sm).toNat)
    case atStart => exact ⟨_, _, by first | exact congrArg _ r2 | go_num, by go_num, hM0, hM, hk, HV.out⟩
    case round =>
      obtain ⟨M', j, rfl, rfl, hM0', hM', hj, hVj⟩ := hrel
      have HVJ : Hid (V = M' * 2 ^ j) := hVj
      clear hVj
      by_cases hs : j < 974
      · have hs' : (j : Int) - 974 < 0 := by omega
        by_cases hev : M' % 2 = 0
        · have hev' : (M' : Int) % 2 = 0 := by omega
          go_wp2
          go_round
          case rel => exact ⟨M' / 2, j + 1, by go_num, by go_num, by omega, by omega, by omega, by rw [HVJ.out, Nat.pow_succ, ← Nat.mul_assoc, Nat.mul_right_comm]; congr 1; omega⟩
          case measure => simp [intOf]; omega
        · have hev' : ((M' : Int) % 2 == 0) = false := by simp; omega
          have HNO : Hid (¬ okV V) := okV_odd (by omega) hs HVJ.out
          go_wp2
          refine bodyPost_ret (v := .tuple #[.agg #[.bool false, .slice none 0 0], .bool false]) (by simp [results, Tryz.results34, go_sem]) rfl ⟨(Below.refl _ _).alloc (Nat.le_refl _) _, .inr ⟨HNO.out, rfl⟩⟩
      · obtain ⟨i, hi⟩ : ∃ i, j = i + 974 := ⟨j - 974, by omega⟩
        subst hi
        have ei : ((i + 974 : Nat) : Int) - 974 = (i : Int) := by omega
        rw [ei]
        clear ei
        go_wp2
        go_loop [8, 9] (fun st sx => ∃ u y : Nat, sx = .int .u64 y ∧ st = .int .i64 ((i : Int) + (u : Int)) ∧ y = M' / 2 ^ u ∧ (u = 0 ∨ 2 ^ (u - 1) ≤ M') ∧ u ≤ 53) (fun _ sx => (intOf sx).toNat)
        case atStart => exact ⟨0, M', rfl, by simp, by simp, .inl rfl, by omega⟩
        case round =>
          obtain ⟨u, y, rfl, rfl, hy, hu, hul⟩ := hrel
          have HY : Hid (y = M' / 2 ^ u ∧ (u = 0 ∨ 2 ^ (u - 1) ≤ M')) := ⟨hy, hu⟩
          have hyl : y ≤ M' := by rw [hy]; exact Nat.div_le_self ..
          clear hy hu
          by_cases hy0 : 0 < y
          · have hu2 : 2 ^ u ≤ M' := by
              have h1 := HY.out.1
              rw [h1] at hy0
              exact (Nat.div_pos_iff.1 hy0).2
            have hu53 : u < 53 := by
              rcases Nat.lt_or_ge u 53 with h | h
              · exact h
              · have := Nat.pow_le_pow_right (n := 2) (by decide) h
                omega
            have HU2 : Hid (2 ^ u ≤ M') := hu2
            clear hu2
            go_wp2
            go_round
            case rel => exact ⟨u + 1, y / 2, by go_num, by go_num, by rw [HY.out.1, Nat.div_div_eq_div_mul, Nat.pow_succ], .inr (by simpa using HU2.out), by omega⟩
            case measure => simp [intOf]; omega
          · have hy0' : y = 0 := by omega
            subst hy0'
            have hlt : M' < 2 ^ u := by
              have h1 := HY.out.1
              rcases Nat.div_eq_zero_iff.1 h1.symm with h | h
              · have := Nat.two_pow_pos u; omega
              · exact h
            have hu0 : u ≠ 0 := fun h => by rw [h] at hlt; simp at hlt; omega
            have hge : 2 ^ (u - 1) ≤ M' := by
              rcases HY.out.2 with h | h
              · exact absurd h hu0
              · exact h
            by_cases htop : i + u ≤ 200
            · have hN : M' * 2 ^ i < 2 ^ 200 := by
                have h1 : M' * 2 ^ i < 2 ^ u * 2 ^ i := Nat.mul_lt_mul_of_pos_right hlt (Nat.two_pow_pos i)
                rw [← Nat.pow_add] at h1
                exact Nat.lt_of_lt_of_le h1 (Nat.pow_le_pow_right (by decide) (by omega))
              have hVe : V = M' * 2 ^ i * 2 ^ 974 := by rw [HVJ.out, Nat.pow_add, Nat.mul_assoc]
              have HOK : Hid (okV V ∧ V = upU (M' * 2 ^ i)) := ⟨okV_yes hN hVe, hVe⟩
              clear hN hVe hlt hge
              go_wp2_with (go_at_call 52; go_must (refine (doubled_any M' i _ hM' (by omega)).mono ?_; rintro e w1 ⟨v1, ks, rfl, hl1, ht1, he1, hb1⟩; obtain ⟨a1, c1, hv1, _⟩ := hl1.form; subst hv1; have hrw := number_row hb1; obtain ⟨⟨r0, r1', f0, f1⟩, hrow⟩ := hrw))
              refine bodyPost_ret (v := .tuple #[.agg #[.bool ng, .slice a1 ks.length c1], .bool true]) (by simp [results, Tryz.results34, go_sem, r0, r1', r3.out]) rfl ⟨?_, .inl ⟨HOK.out.1, _, ks, rfl, hl1.store2 hrow, ht1, by rw [he1]; exact HOK.out.2, ?_⟩⟩
              · have hbw := below_step hb1 ((Below.refl _ w).alloc (Nat.le_refl _) _)
                exact (hbw.setCell (Nat.le_refl _) _).setCell (Nat.le_refl _) _
              · intro h0
                rw [h0] at he1
                have := Nat.two_pow_pos i
                rcases Nat.mul_eq_zero.1 he1.symm with h | h <;> omega
            · have hN : 2 ^ 200 ≤ M' * 2 ^ i := by
                have h1 : 2 ^ (u - 1) * 2 ^ i ≤ M' * 2 ^ i := Nat.mul_le_mul_right _ hge
                rw [← Nat.pow_add] at h1
                exact Nat.le_trans (Nat.pow_le_pow_right (by decide) (by omega)) h1
              have HNO : Hid (¬ okV V) := okV_big hN (by rw [HVJ.out, Nat.pow_add, Nat.mul_assoc])
              clear hN hlt hge
              go_wp2
              refine bodyPost_ret (v := .tuple #[.agg #[.bool false, .slice none 0 0], .bool false]) (by simp [results, Tryz.results34, go_sem]) rfl ⟨(Below.refl _ _).alloc (Nat.le_refl _) _, .inr ⟨HNO.out, rfl⟩⟩

end Go.Proofs.YtbjjkfmdkmbcfaaGreat

namespace Go.Proofs.YtbjjkfmdkmbcfaaGreat
open Go.RowKit
open PlLv
open Ieee (double signed)

attribute [local go_sem ↓] Go.wp_at_zero Go.wp_at_succ

/-- A coordinate in the document's units. -/
def crd (b : Nat) : Int := valB b / 2 ^ 974

theorem okV_iff {b V : Nat} {_ng : Bool} (hm : mayB b = (decide (V < 2 ^ 1174) && decide (2 ^ 974 ∣ V))) : mayB b = true ↔ okV V := by
  rw [hm, Bool.and_eq_true, decide_eq_true_eq, decide_eq_true_eq]; rfl

theorem upU_cast (n : Nat) : ((upU n : Nat) : Int) = (n : Int) * 2 ^ 974 := PlRd.cast_two_pow n 974

theorem crd_of {b n : Nat} {ng : Bool} (h : valB b = if ng then -((upU n : Nat) : Int) else ((upU n : Nat) : Int)) : crd b = if ng then -(n : Int) else (n : Int) := by
  unfold crd
  rw [h, upU_cast]
  have hp := PlRd.two_pow_pos 974
  generalize (2 : Int) ^ 974 = E at *
  split
  · rw [← Int.neg_mul]; exact Int.mul_ediv_cancel _ (by omega)
  · exact Int.mul_ediv_cancel _ (by omega)

theorem valB_crd {b : Nat} (h : mayB b = true) : valB b = crd b * 2 ^ 974 := by
  obtain ⟨_, hd, _⟩ := co_mayB h
  unfold crd
  exact (Int.ediv_mul_cancel hd).symm

theorem number_any (b : Nat) (w : World) (hb : b < 2 ^ 64) :
    Calls Tryz.prog 34 #[.int .u64 b] w fun e w' => Below w.heap.size w w' ∧ ((mayB b = true ∧ ∃ neg v ls, e = .returned (.tuple #[.agg #[.bool neg, v], .bool true]) ∧ Bg w' neg v ls (crd b)) ∨
      (mayB b = false ∧ e = .returned (.tuple #[.agg #[.bool false, .slice none 0 0], .bool false]))) := by
  obtain ⟨e0, he⟩ : ∃ e0, e0 = b / 4503599627370496 % 2048 := ⟨_, rfl⟩
  obtain ⟨m0, hm⟩ : ∃ m0, m0 = b % 4503599627370496 := ⟨_, rfl⟩
  obtain ⟨ng, hn⟩ : ∃ ng, ng = decide (9223372036854775808 ≤ b) := ⟨_, rfl⟩
  obtain ⟨h0, h1, h2⟩ := read_parts b e0 m0 ng hb he hm hn
  have hbI : (b : Int) ≤ 18446744073709551615 := by omega
  have hml : m0 < 4503599627370496 := by omega
  have hel : e0 < 2048 := by omega
  have hn2 : decide ((9223372036854775808 : Int) ≤ (b : Int)) = ng := by rw [hn]; exact decide_eq_decide.2 (by omega)
  -- what the main walk gives, read as a coordinate
  have fin : ∀ {V M k : Nat} {p : Int}, double.read b = .number ng M p → (p + 1074).toNat = k → V = M * 2 ^ k → ∀ {e : Ending} {w' : World},
      (Below w.heap.size w w' ∧ ((okV V ∧ ∃ v ls, e = .returned (.tuple #[.agg #[.bool ng, v], .bool true]) ∧ Lim w' v ls ∧ Tr ls ∧ V = upU (lv ls) ∧ ls ≠ []) ∨ (¬ okV V ∧ e = .returned (.tuple #[.agg #[.bool false, .slice none 0 0], .bool false])))) →
      (Below w.heap.size w w' ∧ ((mayB b = true ∧ ∃ neg v ls, e = .returned (.tuple #[.agg #[.bool neg, v], .bool true]) ∧ Bg w' neg v ls (crd b)) ∨ (mayB b = false ∧ e = .returned (.tuple #[.agg #[.bool false, .slice none 0 0], .bool false])))) := by
    intro V M k p hr hk hV e w' h
    obtain ⟨hm1, hv1⟩ := mayB_mag hr hk hV
    have hiff := okV_iff (_ng := ng) hm1
    rcases h with ⟨hbel, ⟨hok, v, ls, rfl, hl, ht, hVe, hne⟩ | ⟨hno, rfl⟩⟩
    · refine ⟨hbel, .inl ⟨hiff.2 hok, ng, v, ls, rfl, hl, ht, ?_, fun _ => hne⟩⟩
      rw [hVe] at hv1
      exact crd_of hv1
    · refine ⟨hbel, .inr ⟨?_, rfl⟩⟩
      cases hmb : mayB b
      · rfl
      · exact absurd (hiff.1 hmb) hno
  by_cases e2 : e0 = 2047
  · have hno : mayB b = false := by
      unfold mayB
      rcases h2 e2 with ⟨s, h⟩ | ⟨s, t, h⟩ <;> rw [h]
    refine (number_inf b ng w hbI (by omega) hn.symm).mono ?_
    rintro e w' ⟨hbel, rfl⟩
    exact ⟨hbel, .inr ⟨hno, rfl⟩⟩
  · by_cases e3 : e0 = 0
    · by_cases e4 : m0 = 0
      · refine (number_zero b ng w hbI (by omega) (by omega) hn.symm).mono ?_
        rintro e w' ⟨hbel, rfl⟩
        have hr := h0 e3
        obtain ⟨hm1, hv1⟩ := mayB_mag (k := 0) (V := 0) hr (by omega) (by rw [e4])
        have hv0 : valB b = 0 := by rw [hv1]; split <;> rfl
        refine ⟨hbel, .inl ⟨?_, false, .slice none 0 0, [], rfl, ⟨World.ownsRow_nil _ _ _ _, fun l hl => by simp at hl, by simp⟩, tr_nil, ?_, fun h => by cases h⟩⟩
        · exact (okV_iff (_ng := ng) hm1).2 ⟨Nat.two_pow_pos 1174, Nat.dvd_zero _⟩
        · unfold crd; rw [hv0, Int.zero_ediv]; rfl
      · exact (number_main b e0 m0 _ ng w hbI (by omega) (by omega) hn2 hml (by omega) (.inl ⟨e3, by omega, rfl⟩)).mono fun e w' h => fin (k := 0) (h0 e3) (by omega) rfl h
    · exact (number_main b e0 m0 _ ng w hbI (by omega) (by omega) hn2 hml (by omega) (.inr ⟨by omega, rfl⟩)).mono fun e w' h => fin (k := e0 - 1) (h1 (by omega) (by omega)) (by omega) (by rw [Nat.add_comm m0]) h

end Go.Proofs.YtbjjkfmdkmbcfaaGreat

namespace Go.Proofs.YtbjjkfmdkmbcfaaGreat
open Go.RowKit
open PlLv

attribute [local go_sem ↓] Go.wp_at_zero Go.wp_at_succ

theorem info55 : (Tryz.prog.info? 55).map (fun i => (i.zero, i.size, i.bytes)) = some (some (.agg #[.bool false, .slice none 0 0, .bool false, .slice none 0 0]), 4, 64) := by kernel_rfl

theorem number_yes (b : Nat) (w : World) (hb : b < 2 ^ 64) (hm : mayB b = true) : Calls Tryz.prog 34 #[.int .u64 b] w fun e w' => Below w.heap.size w w' ∧ ∃ neg v ls, e = .returned (.tuple #[.agg #[.bool neg, v], .bool true]) ∧ Bg w' neg v ls (crd b) := by
  refine (number_any b w hb).mono ?_
  rintro e w' ⟨h, ⟨_, h2⟩ | ⟨h1, _⟩⟩
  · exact ⟨h, h2⟩
  · rw [hm] at h1; cases h1

theorem number_no (b : Nat) (w : World) (hb : b < 2 ^ 64) (hm : mayB b = false) : Calls Tryz.prog 34 #[.int .u64 b] w fun e w' => Below w.heap.size w w' ∧ e = .returned (.tuple #[.agg #[.bool false, .slice none 0 0], .bool false]) := by
  refine (number_any b w hb).mono ?_
  rintro e w' ⟨h, ⟨h1, _⟩ | ⟨_, h2⟩⟩
  · rw [hm] at h1; cases h1
  · exact ⟨h, h2⟩

/-- A point of the reference: its two numbers, as they lie in memory. -/
structure PB where
  nx : Bool
  vx : Value
  lx : List Nat
  ny : Bool
  vy : Value
  ly : List Nat

def pbCells (q : PB) : List Value := [.bool q.nx, q.vx, .bool q.ny, q.vy]

def PBs (w : World) (q : PB) (p : Nat × Nat) : Prop := Bg w q.nx q.vx q.lx (crd p.1) ∧ Bg w q.ny q.vy q.ly (crd p.2)

def PBL (w : World) : List PB → List (Nat × Nat) → Prop
  | [], [] => True
  | q :: qs, p :: ps => PBs w q p ∧ PBL w qs ps
  | _, _ => False

theorem PBs.kept {w w' : World} {q : PB} {p : Nat × Nat} (h : PBs w q p) (hb : Below w.heap.size w w') : PBs w' q p := ⟨h.1.kept hb, h.2.kept hb⟩

theorem PBL.kept {w w' : World} (hb : Below w.heap.size w w') : ∀ {qs : List PB} {ps : List (Nat × Nat)}, PBL w qs ps → PBL w' qs ps
  | [], [], _ => trivial
  | _ :: _, _ :: _, h => ⟨h.1.kept hb, PBL.kept hb h.2⟩
  | [], _ :: _, h => by cases h
  | _ :: _, [], h => by cases h

theorem PBL.length {w : World} : ∀ {qs : List PB} {ps : List (Nat × Nat)}, PBL w qs ps → qs.length = ps.length
  | [], [], _ => rfl
  | _ :: _, _ :: _, h => by simp [PBL.length h.2]
  | [], _ :: _, h => by cases h
  | _ :: _, [], h => by cases h

theorem PBL.append {w : World} {q : PB} {p : Nat × Nat} (hq : PBs w q p) : ∀ {qs : List PB} {ps : List (Nat × Nat)}, PBL w qs ps → PBL w (qs ++ [q]) (ps ++ [p])
  | [], [], _ => ⟨hq, trivial⟩
  | _ :: _, _ :: _, h => ⟨h.1, PBL.append hq h.2⟩
  | [], _ :: _, h => by cases h
  | _ :: _, [], h => by cases h

theorem cells_four {w : World} {a b c d : Value} {t : TypeId} {n : Nat} (hn : n = w.heap.size) : ∀ j u, [a, b, c, d][j]? = some u → (w.alloc (.cells #[a, b, c, d] t)).cell? ((⟨n, 0, none⟩ : Addr).add j) = some u := by
  intro j u hu
  subst hn
  have hadd : ∀ j, (⟨w.heap.size, 0, none⟩ : Addr).add j = ⟨w.heap.size, j, none⟩ := fun j => by unfold Addr.add; split <;> simp_all
  rw [hadd, World.cell?_alloc_at _ _ _ _ rfl]
  match j, hu with
  | 0, hu => simpa using hu
  | 1, hu => simpa using hu
  | 2, hu => simpa using hu
  | 3, hu => simpa using hu

theorem Lim.grown {w w' : World} {v : Value} {ls : List Nat} {row : Option Nat} (h : Lim w v ls) (hg : w.grownBy w' row) (hr : ∀ k, row = some k → ∀ cur, w.heap[k]? ≠ some (.cells cur 105 (0, 0))) : Lim w' v ls := by
  refine ⟨⟨h.own.1, ?_⟩, h.ok, h.len⟩
  rcases h.own.2 with hn | ⟨g, c, cur, rfl, h1, hgg, rest⟩
  · exact .inl hn
  · refine .inr ⟨g, c, cur, rfl, h1, ?_, rest⟩
    rw [hg.block g (lt_of_row hgg) (fun e => hr g e.symm cur hgg)]
    exact hgg

theorem PBs.grown {w w' : World} {q : PB} {p : Nat × Nat} {row : Option Nat} (h : PBs w q p) (hg : w.grownBy w' row) (hr : ∀ k, row = some k → ∀ cur, w.heap[k]? ≠ some (.cells cur 105 (0, 0))) : PBs w' q p :=
  ⟨⟨h.1.lim.grown hg hr, h.1.tr, h.1.eq, h.1.pos⟩, ⟨h.2.lim.grown hg hr, h.2.tr, h.2.eq, h.2.pos⟩⟩

theorem PBL.grown {w w' : World} {row : Option Nat} (hg : w.grownBy w' row) (hr : ∀ k, row = some k → ∀ cur, w.heap[k]? ≠ some (.cells cur 105 (0, 0))) : ∀ {qs : List PB} {ps : List (Nat × Nat)}, PBL w qs ps → PBL w' qs ps
  | [], [], _ => trivial
  | _ :: _, _ :: _, h => ⟨h.1.grown hg hr, PBL.grown hg hr h.2⟩
  | [], _ :: _, h => by cases h
  | _ :: _, [], h => by cases h

theorem row51 {w : World} {b : Nat} {v : Value} {n : Nat} {xs : List Value} (h : w.ownsRow b 55 4 v n xs) : ∀ k, v.ownBlock = some k → ∀ cur, w.heap[k]? ≠ some (.cells cur 105 (0, 0)) := by
  intro k hk cur hc
  rcases h.2 with ⟨rfl, _⟩ | ⟨g, c, cur', rfl, _, hg, _⟩
  · simp [Value.ownBlock] at hk
  · simp [Value.ownBlock] at hk
    subst hk
    rw [hg] at hc
    simp at hc

set_option maxHeartbeats 4000000 in
set_option maxRecDepth 100000 in
theorem points_walk (g n c : Nat) (ps : List (Nat × Nat)) (w : World) (hn : ps.length = n) (hnm : n ≤ 100000) (hg : g < w.heap.size) (hc : PtsAt w g 0 ps) (h64 : ∀ p ∈ ps, p.1 < 2 ^ 64 ∧ p.2 < 2 ^ 64) :
    Calls Tryz.prog 15 #[.slice (some ⟨g, 0, none⟩) n c] w fun e w' => Below w.heap.size w w' ∧ ((okPts ps = true ∧ ∃ v qs, e = .returned (.tuple #[v, .bool true]) ∧ w'.ownsRow w.heap.size 55 4 v n (qs.flatMap pbCells) ∧ PBL w' qs ps) ∨
      (okPts ps = false ∧ e = .returned (.tuple #[.slice none 0 0, .bool false]))) := by
  obtain ⟨i0, hi, hz0, hz1, hz2⟩ := info_parts info55
  go_enter Tryz.func15, Tryz.ntmps15
  go_wp2
  go_loopw [4, 5] (fun so si wr => ∃ (k : Nat) (qs : List PB), si = .int .i64 k ∧ k ≤ n ∧ wr.ownsRow w.heap.size 55 4 so k (qs.flatMap pbCells) ∧ PBL wr qs (ps.take k) ∧ okPts (ps.take k) = true ∧ Below w.heap.size w wr) (fun _ si _ => n - (intOf si).toNat)
  case atStart => exact ⟨0, [], rfl, Nat.zero_le _, World.ownsRow_nil _ _ _ _, by simp [PBL], by simp [okPts], Below.refl _ _⟩
  case round =>
    obtain ⟨k, qs, rfl, hk, hown, hpb, hok, hbel⟩ := hrel
    by_cases hlt : k < n
    · obtain ⟨x, y, hx, hc0, hc1⟩ : ∃ x y, (x, y) = ps.getD k (0, 0) ∧ (∀ W', Below w.heap.size w W' → W'.cell? ⟨g, k * 2, none⟩ = some (.int .u64 (x : Nat))) ∧ (∀ W', Below w.heap.size w W' → W'.cell? ⟨g, k * 2 + 1, none⟩ = some (.int .u64 (y : Nat))) := by
        have h := hc k (by omega)
        rw [Nat.zero_add] at h
        exact ⟨_, _, rfl, fun W' hb => (hb.cell (by exact hg)).trans h.1, fun W' hb => (hb.cell (by exact hg)).trans h.2⟩
      have hx64 : x < 2 ^ 64 ∧ y < 2 ^ 64 := h64 (x, y) (by rw [hx, List.getD_eq_getElem?_getD, List.getElem?_eq_getElem (by omega)]; exact List.getElem_mem _)
      obtain ⟨hx64, hy64⟩ := hx64
      have HX : Hid ((x, y) = ps.getD k (0, 0)) := hx
      have cx := hc0 wr hbel
      have hsz := hbel.size
      have hgl : g < wr.heap.size := by omega
      have HC1 : Hid (∀ W', Below w.heap.size w W' → W'.cell? ⟨g, k * 2 + 1, none⟩ = some (.int .u64 (y : Nat))) := hc1
      clear hx hc0 hc1
      rcases hmx : mayB x with _ | _
      · rcases hmy : mayB y with _ | _
        · have hno : okPts ps = false := okPts_of_take (k := k + 1) (by rw [pts_next (by omega) HX.out, okPts_snoc, hmx]; simp)
          have HNO : Hid (okPts ps = false) := hno
          clear hno
          go_wp2_with (first | (go_at_call_of 34 (Value.int IntKind.u64 ↑x); go_must (refine (number_no x _ hx64 hmx).mono ?_; rintro e w1 ⟨hb1, rfl⟩; have hgl1 : g < w1.heap.size := (by have := hb1.size; omega); have cy1 := HC1.out w1 (hbel.trans (hb1.mono hsz)))) | (go_at_call_of 34 (Value.int IntKind.u64 ↑y); go_must (refine (number_no y _ hy64 hmy).mono ?_; rintro e w2 ⟨hb2, rfl⟩; have hB2 : Below wr.heap.size wr w2 := below_step hb2 (hb1.alloc hb1.size _); have hl2 : w1.heap.size < w2.heap.size := (by have := hb2.size; simp at this; omega))))
          go_ret2
          exact ⟨hbel.trans ((hB2.alloc hB2.size _).mono hsz), .inr ⟨HNO.out, rfl⟩⟩
        · have hno : okPts ps = false := okPts_of_take (k := k + 1) (by rw [pts_next (by omega) HX.out, okPts_snoc, hmx]; simp)
          have HNO : Hid (okPts ps = false) := hno
          clear hno
          go_wp2_with (first | (go_at_call_of 34 (Value.int IntKind.u64 ↑x); go_must (refine (number_no x _ hx64 hmx).mono ?_; rintro e w1 ⟨hb1, rfl⟩; have hgl1 : g < w1.heap.size := (by have := hb1.size; omega); have cy1 := HC1.out w1 (hbel.trans (hb1.mono hsz)))) | (go_at_call_of 34 (Value.int IntKind.u64 ↑y); go_must (refine (number_yes y _ hy64 hmy).mono ?_; rintro e w2 ⟨hb2, n2, v2, l2, rfl, hg2⟩; obtain ⟨a2, c2, hv2⟩ := bg_form hg2; subst hv2; have hB2 : Below wr.heap.size wr w2 := below_step hb2 (hb1.alloc hb1.size _); have hl2 : w1.heap.size < w2.heap.size := (by have := hb2.size; simp at this; omega))))
          go_ret2
          exact ⟨hbel.trans ((hB2.alloc hB2.size _).mono hsz), .inr ⟨HNO.out, rfl⟩⟩
      · rcases hmy : mayB y with _ | _
        · have hno : okPts ps = false := okPts_of_take (k := k + 1) (by rw [pts_next (by omega) HX.out, okPts_snoc, hmy]; simp)
          have HNO : Hid (okPts ps = false) := hno
          clear hno
          go_wp2_with (first | (go_at_call_of 34 (Value.int IntKind.u64 ↑x); go_must (refine (number_yes x _ hx64 hmx).mono ?_; rintro e w1 ⟨hb1, n1, v1, l1, rfl, hg1⟩; obtain ⟨a1, c1, hv1⟩ := bg_form hg1; subst hv1; have hgl1 : g < w1.heap.size := (by have := hb1.size; omega); have cy1 := HC1.out w1 (hbel.trans (hb1.mono hsz)))) | (go_at_call_of 34 (Value.int IntKind.u64 ↑y); go_must (refine (number_no y _ hy64 hmy).mono ?_; rintro e w2 ⟨hb2, rfl⟩; have hB2 : Below wr.heap.size wr w2 := below_step hb2 (hb1.alloc hb1.size _); have hl2 : w1.heap.size < w2.heap.size := (by have := hb2.size; simp at this; omega))))
          go_ret2
          exact ⟨hbel.trans ((hB2.alloc hB2.size _).mono hsz), .inr ⟨HNO.out, rfl⟩⟩
        · have HY : Hid (okPts (ps.take (k + 1)) = true) := by unfold Hid; rw [pts_next (by omega) HX.out, okPts_snoc, hmx, hmy, hok]; rfl
          go_wp2_with (first | (go_at_call_of 34 (Value.int IntKind.u64 ↑x); go_must (refine (number_yes x _ hx64 hmx).mono ?_; rintro e w1 ⟨hb1, n1, v1, l1, rfl, hg1⟩; obtain ⟨a1, c1, hv1⟩ := bg_form hg1; subst hv1; have hgl1 : g < w1.heap.size := (by have := hb1.size; omega); have cy1 := HC1.out w1 (hbel.trans (hb1.mono hsz)))) | (go_at_call_of 34 (Value.int IntKind.u64 ↑y); go_must (refine (number_yes y _ hy64 hmy).mono ?_; rintro e w2 ⟨hb2, n2, v2, l2, rfl, hg2⟩; obtain ⟨a2, c2, hv2⟩ := bg_form hg2; subst hv2; have hB2 : Below wr.heap.size wr w2 := below_step hb2 (hb1.alloc hb1.size _); have hl2 : w1.heap.size < w2.heap.size := (by have := hb2.size; simp at this; omega); have bx0 : w2.cell? ⟨w1.heap.size, 0, none⟩ = some (.bool n1) := (by rw [(bcell hb2).1 _ _ (by simp)]; simp [go_sem]); have bx1 : w2.cell? ⟨w1.heap.size, 1, none⟩ = some (.slice a1 l1.length c1) := (by rw [(bcell hb2).1 _ _ (by simp)]; simp [go_sem]))) | (at_builtin; go_must (refine wpList_append_own _ rfl _ _ 42 rfl w.heap.size 55 i0 _ 4 64 Tryz.underlying42 hi hz0 hz1 hz2 rfl (by decide) _ k (qs.flatMap pbCells) rfl (own_kept hown ((hB2.alloc hB2.size _).alloc (by have := hB2.size; simp; omega) _)) ⟨_, 0, none⟩ 1 1 [.bool n1, .slice a1 l1.length c1, .bool n2, .slice a2 l2.length c2] rfl rfl (cells_four (by simp)) (by intro u hu; simp at hu; rcases hu with rfl | rfl | rfl | rfl <;> rfl) (by unfold maxLen; omega) (by omega) (by have := hB2.size; simp; omega) ?_; intro v' w3 h1 h2 _)))
          have hB3 : Below w.heap.size w w3 := by
            refine Below.grown (hbel.trans (((hB2.alloc hB2.size _).alloc (by have := hB2.size; simp; omega) _).mono hsz)) h2 (by have := hB2.size; simp; omega) (fun k hk => (hown.lt k hk).1)
          have hrow51 := fun (o1 o2 : Obj) => row51 (own_kept hown ((hB2.alloc hB2.size o1).alloc (by have := hB2.size; simp; omega) o2))
          have hq : PBs w3 ⟨n1, .slice a1 l1.length c1, l1, n2, .slice a2 l2.length c2, l2⟩ (x, y) := by
            refine PBs.grown ⟨Bg.kept hg1 ?_, Bg.kept hg2 ?_⟩ h2 (hrow51 _ _)
            · exact (below_step hb2 ((Below.refl _ _).alloc (Nat.le_refl _) _) |>.alloc (by have := hb2.size; simp at this; omega) _).alloc (by have := hb2.size; simp at this ⊢; omega) _
            · exact ((Below.refl _ _).alloc (Nat.le_refl _) _).alloc (by simp) _
          have hp' : PBL w3 (qs ++ [_]) (ps.take k ++ [(x, y)]) := PBL.append hq (PBL.grown h2 (hrow51 _ _) (PBL.kept ((hB2.alloc hB2.size _).alloc (by have := hB2.size; simp; omega) _) hpb))
          rw [← pts_next (by omega) HX.out] at hp'
          have h1' : w3.ownsRow w.heap.size 55 4 v' (k + 1) ((qs ++ [(⟨n1, .slice a1 l1.length c1, l1, n2, .slice a2 l2.length c2, l2⟩ : PB)]).flatMap pbCells) := by simpa [pbCells] using h1
          clear h1 h2 hq hrow51 hown hpb hok
          go_roundw
          case rel => exact ⟨k + 1, _, by go_num, by omega, h1', hp', HY.out, hB3⟩
          case measure => simp [intOf]; omega
    · have ht : ps.take k = ps := List.take_of_length_le (by omega)
      have hkn : k = n := by omega
      subst hkn
      rw [ht] at hpb hok
      clear ht
      go_wp2
      go_ret2
      exact ⟨hbel, .inl ⟨hok, _, qs, rfl, hown, hpb⟩⟩

end Go.Proofs.YtbjjkfmdkmbcfaaGreat
