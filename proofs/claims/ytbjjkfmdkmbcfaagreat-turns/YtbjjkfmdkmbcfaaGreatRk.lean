import Derived.Test.YtbjjkfmdkmbcfaaGreatRj
namespace Go.Proofs.YtbjjkfmdkmbcfaaGreat
open Go.RowKit
open PlLv
open Ieee (double signed)

attribute [local go_sem ↓] Go.wp_at_zero Go.wp_at_succ

set_option maxHeartbeats 1000000 in
set_option maxRecDepth 100000 in
theorem number_inf (b : Nat) (ng : Bool) (w : World) (hb : (b : Int) ≤ 18446744073709551615) (r1 : (b : Int) / 4503599627370496 % 2048 = 2047) (_r3 : decide (9223372036854775808 ≤ b) = ng) :
    Calls Tryz.prog 34 #[.int .u64 b] w fun e w' => Below w.heap.size w w' ∧ e = .returned (.tuple #[.agg #[.bool false, .slice none 0 0], .bool false]) := by
  go_enter Tryz.func34, Tryz.ntmps34
  go_wp2
  refine bodyPost_ret (v := .tuple #[.agg #[.bool false, .slice none 0 0], .bool false]) (by simp [results, Tryz.results34, go_sem]) rfl ⟨?_, rfl⟩
  exact (Below.refl _ _).alloc (Nat.le_refl _) _

set_option maxHeartbeats 1000000 in
set_option maxRecDepth 100000 in
theorem number_zero (b : Nat) (ng : Bool) (w : World) (hb : (b : Int) ≤ 18446744073709551615) (r1 : (b : Int) / 4503599627370496 % 2048 = 0) (r2 : (b : Int) % 4503599627370496 = 0) (_r3 : decide (9223372036854775808 ≤ b) = ng) :
    Calls Tryz.prog 34 #[.int .u64 b] w fun e w' => Below w.heap.size w w' ∧ e = .returned (.tuple #[.agg #[.bool false, .slice none 0 0], .bool true]) := by
  go_enter Tryz.func34, Tryz.ntmps34
  go_wp2
  refine bodyPost_ret (v := .tuple #[.agg #[.bool false, .slice none 0 0], .bool true]) (by simp [results, Tryz.results34, go_sem]) rfl ⟨?_, rfl⟩
  exact (Below.refl _ _).alloc (Nat.le_refl _) _

/-- May it be, by its magnitude in units. -/
def okV (V : Nat) : Prop := V < 2 ^ 1174 ∧ 2 ^ 974 ∣ V

/-- A whole number of the document's units, in units. -/
def upU (n : Nat) : Nat := n * 2 ^ 974

theorem pow_lt_scale {N a b c : Nat} (hc : c = a + b) (h : N < 2 ^ a) : N * 2 ^ b < 2 ^ c := by
  rw [hc, Nat.pow_add]
  exact Nat.mul_lt_mul_of_pos_right h (Nat.two_pow_pos b)

theorem pow_le_scale {N a b c : Nat} (hc : c = a + b) (h : 2 ^ a ≤ N) : 2 ^ c ≤ N * 2 ^ b := by
  rw [hc, Nat.pow_add]
  exact Nat.mul_le_mul_right _ h

theorem okV_yes {N V : Nat} (h : N < 2 ^ 200) (hV : V = N * 2 ^ 974) : okV V := by
  unfold okV
  rw [hV]
  exact ⟨pow_lt_scale (a := 200) (b := 974) (c := 1174) rfl h, Nat.dvd_mul_left ..⟩

theorem okV_big {N V : Nat} (h : 2 ^ 200 ≤ N) (hV : V = N * 2 ^ 974) : ¬ okV V := by
  intro hk
  have h1 := hk.1
  rw [hV] at h1
  exact absurd (Nat.lt_of_le_of_lt (pow_le_scale (a := 200) (b := 974) (c := 1174) rfl h) h1) (Nat.lt_irrefl _)

theorem okV_odd {M j V : Nat} (h : M % 2 = 1) (hj : j < 974) (hV : V = M * 2 ^ j) : ¬ okV V := by
  intro hk
  have h2 := hk.2
  rw [hV] at h2
  exact not_dvd_odd h hj h2

theorem number_row {w W : World} (hb : Below (w.alloc (.cells #[.bool false, .slice none 0 0] 53)).heap.size (w.alloc (.cells #[.bool false, .slice none 0 0] 53)) W) : (W.cell? ⟨w.heap.size, 0, none⟩ = some (.bool false) ∧ W.cell? ⟨w.heap.size, 1, none⟩ = some (.slice none 0 0) ∧ W.frozen? ⟨w.heap.size, 0, none⟩ = false ∧ W.frozen? ⟨w.heap.size, 1, none⟩ = false) ∧ (∀ cur, W.heap[w.heap.size]? ≠ some (.cells cur 105 (0, 0))) := by
  obtain ⟨hc, hf⟩ := bcell hb
  rw [hc _ _ (by simp), hc _ _ (by simp), hf _ _ (by simp), hf _ _ (by simp), hb.block _ (by simp)]
  refine ⟨by simp [go_sem], fun cur h => ?_⟩
  rw [heap_alloc_new] at h
  simp at h

set_option maxHeartbeats 2000000 in
set_option maxRecDepth 100000 in
theorem number_main (b e0 m0 V : Nat) (ng : Bool) (w : World) (hb : (b : Int) ≤ 18446744073709551615) (r1 : (b : Int) / 4503599627370496 % 2048 = (e0 : Int)) (r2 : (b : Int) % 4503599627370496 = (m0 : Int)) (r3 : Hid (decide ((9223372036854775808 : Int) ≤ (b : Int)) = ng))
    (hm0 : m0 < 4503599627370496) (he0 : e0 < 2047) (hcase : (e0 = 0 ∧ 0 < m0 ∧ V = m0 * 2 ^ 0) ∨ (0 < e0 ∧ V = (m0 + 4503599627370496) * 2 ^ (e0 - 1))) :
    Calls Tryz.prog 34 #[.int .u64 b] w fun e w' => Below w.heap.size w w' ∧ ((okV V ∧ ∃ v ls, e = .returned (.tuple #[.agg #[.bool ng, v], .bool true]) ∧ Lim w' v ls ∧ Tr ls ∧ V = upU (lv ls) ∧ ls ≠ []) ∨
      (¬ okV V ∧ e = .returned (.tuple #[.agg #[.bool false, .slice none 0 0], .bool false]))) := by
  have hV : ∃ M k : Nat, M ≠ 0 ∧ M < 9007199254740992 ∧ k ≤ 2046 ∧ V = M * 2 ^ k ∧ ((e0 = 0 ∧ (0 : Int) < (m0 : Int) ∧ M = m0 ∧ k = 0) ∨ ((0 : Int) < (e0 : Int) ∧ M = m0 + 4503599627370496 ∧ k + 1 = e0)) := by
    rcases hcase with ⟨h1, h2, h3⟩ | ⟨h1, h2⟩
    · exact ⟨m0, 0, by omega, by omega, by omega, h3, .inl ⟨h1, by omega, rfl, rfl⟩⟩
    · exact ⟨m0 + 4503599627370496, e0 - 1, by omega, by omega, by omega, h2, .inr ⟨by omega, rfl, by omega⟩⟩
  obtain ⟨M, k, hM0, hM, hk, hVM, hor⟩ := hV
  have HV : Hid (V = M * 2 ^ k) := hVM
  clear hcase hVM
  rcases hor with ⟨rfl, h2, rfl, rfl⟩ | ⟨h1, rfl, h2⟩
  all_goals
    go_enter Tryz.func34, Tryz.ntmps34
    go_wp2
    go_loop [5, 7] (fun sm ss => ∃ M' j : Nat, sm = .int .u64 M' ∧ ss = .int .i64 ((j : Int) - 974) ∧ M' ≠ 0 ∧ M' < 9007199254740992 ∧ j ≤ 2046 ∧ V = M' * 2 ^ j) (fun sm _ => (intOf sm).toNat)
    case atStart => exact ⟨_, _, by first | exact congrArg _ r2 | go_num, by go_num, hM0, hM, hk, HV.out⟩
    case round =>
      obtain ⟨M', j, rfl, rfl, hM0', hM', hj, hVj⟩ := hrel
      have HVJ : Hid (V = M' * 2 ^ j) := hVj
      clear hVj
      by_cases hs : j < 974
      · have hs' : (j : Int) - 974 < 0 := by omega
        by_cases hev : M' % 2 = 0
        · have hev' : (M' : Int) % 2 = 0 := by omega
          go_wp2
          go_round
          case rel => exact ⟨M' / 2, j + 1, by go_num, by go_num, by omega, by omega, by omega, by rw [HVJ.out, Nat.pow_succ, ← Nat.mul_assoc, Nat.mul_right_comm]; congr 1; omega⟩
          case measure => simp [intOf]; omega
        · have hev' : ((M' : Int) % 2 == 0) = false := by simp; omega
          have HNO : Hid (¬ okV V) := okV_odd (by omega) hs HVJ.out
          go_wp2
          refine bodyPost_ret (v := .tuple #[.agg #[.bool false, .slice none 0 0], .bool false]) (by simp [results, Tryz.results34, go_sem]) rfl ⟨(Below.refl _ _).alloc (Nat.le_refl _) _, .inr ⟨HNO.out, rfl⟩⟩
      · obtain ⟨i, hi⟩ : ∃ i, j = i + 974 := ⟨j - 974, by omega⟩
        subst hi
        have ei : ((i + 974 : Nat) : Int) - 974 = (i : Int) := by omega
        rw [ei]
        clear ei
        go_wp2
        go_loop [8, 9] (fun st sx => ∃ u y : Nat, sx = .int .u64 y ∧ st = .int .i64 ((i : Int) + (u : Int)) ∧ y = M' / 2 ^ u ∧ (u = 0 ∨ 2 ^ (u - 1) ≤ M') ∧ u ≤ 53) (fun _ sx => (intOf sx).toNat)
        case atStart => exact ⟨0, M', rfl, by simp, by simp, .inl rfl, by omega⟩
        case round =>
          obtain ⟨u, y, rfl, rfl, hy, hu, hul⟩ := hrel
          have HY : Hid (y = M' / 2 ^ u ∧ (u = 0 ∨ 2 ^ (u - 1) ≤ M')) := ⟨hy, hu⟩
          have hyl : y ≤ M' := by rw [hy]; exact Nat.div_le_self ..
          clear hy hu
          by_cases hy0 : 0 < y
          · have hu2 : 2 ^ u ≤ M' := by
              have h1 := HY.out.1
              rw [h1] at hy0
              exact (Nat.div_pos_iff.1 hy0).2
            have hu53 : u < 53 := by
              rcases Nat.lt_or_ge u 53 with h | h
              · exact h
              · have := Nat.pow_le_pow_right (n := 2) (by decide) h
                omega
            have HU2 : Hid (2 ^ u ≤ M') := hu2
            clear hu2
            go_wp2
            go_round
            case rel => exact ⟨u + 1, y / 2, by go_num, by go_num, by rw [HY.out.1, Nat.div_div_eq_div_mul, Nat.pow_succ], .inr (by simpa using HU2.out), by omega⟩
            case measure => simp [intOf]; omega
          · have hy0' : y = 0 := by omega
            subst hy0'
            have hlt : M' < 2 ^ u := by
              have h1 := HY.out.1
              rcases Nat.div_eq_zero_iff.1 h1.symm with h | h
              · have := Nat.two_pow_pos u; omega
              · exact h
            have hu0 : u ≠ 0 := fun h => by rw [h] at hlt; simp at hlt; omega
            have hge : 2 ^ (u - 1) ≤ M' := by
              rcases HY.out.2 with h | h
              · exact absurd h hu0
              · exact h
            by_cases htop : i + u ≤ 200
            · have hN : M' * 2 ^ i < 2 ^ 200 := by
                have h1 : M' * 2 ^ i < 2 ^ u * 2 ^ i := Nat.mul_lt_mul_of_pos_right hlt (Nat.two_pow_pos i)
                rw [← Nat.pow_add] at h1
                exact Nat.lt_of_lt_of_le h1 (Nat.pow_le_pow_right (by decide) (by omega))
              have hVe : V = M' * 2 ^ i * 2 ^ 974 := by rw [HVJ.out, Nat.pow_add, Nat.mul_assoc]
              have HOK : Hid (okV V ∧ V = upU (M' * 2 ^ i)) := ⟨okV_yes hN hVe, hVe⟩
              clear hN hVe hlt hge
              go_wp2_with (go_at_call 52; go_must (refine (doubled_any M' i _ hM' (by omega)).mono ?_; rintro e w1 ⟨v1, ks, rfl, hl1, ht1, he1, hb1⟩; obtain ⟨a1, c1, hv1, _⟩ := hl1.form; subst hv1; have hrw := number_row hb1; obtain ⟨⟨r0, r1', f0, f1⟩, hrow⟩ := hrw))
              refine bodyPost_ret (v := .tuple #[.agg #[.bool ng, .slice a1 ks.length c1], .bool true]) (by simp [results, Tryz.results34, go_sem, r0, r1', r3.out]) rfl ⟨?_, .inl ⟨HOK.out.1, _, ks, rfl, hl1.store2 hrow, ht1, by rw [he1]; exact HOK.out.2, ?_⟩⟩
              · have hbw := below_step hb1 ((Below.refl _ w).alloc (Nat.le_refl _) _)
                exact (hbw.setCell (Nat.le_refl _) _).setCell (Nat.le_refl _) _
              · intro h0
                rw [h0] at he1
                have := Nat.two_pow_pos i
                rcases Nat.mul_eq_zero.1 he1.symm with h | h <;> omega
            · have hN : 2 ^ 200 ≤ M' * 2 ^ i := by
                have h1 : 2 ^ (u - 1) * 2 ^ i ≤ M' * 2 ^ i := Nat.mul_le_mul_right _ hge
                rw [← Nat.pow_add] at h1
                exact Nat.le_trans (Nat.pow_le_pow_right (by decide) (by omega)) h1
              have HNO : Hid (¬ okV V) := okV_big hN (by rw [HVJ.out, Nat.pow_add, Nat.mul_assoc])
              clear hN hlt hge
              go_wp2
              refine bodyPost_ret (v := .tuple #[.agg #[.bool false, .slice none 0 0], .bool false]) (by simp [results, Tryz.results34, go_sem]) rfl ⟨(Below.refl _ _).alloc (Nat.le_refl _) _, .inr ⟨HNO.out, rfl⟩⟩

end Go.Proofs.YtbjjkfmdkmbcfaaGreat
