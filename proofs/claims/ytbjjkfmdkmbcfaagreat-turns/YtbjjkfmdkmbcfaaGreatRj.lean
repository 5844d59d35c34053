import Derived.Test.YtbjjkfmdkmbcfaaGreatRi
namespace Go.Proofs.YtbjjkfmdkmbcfaaGreat
open Go.RowKit
open PlLv
open Ieee (double signed)

attribute [local go_sem ↓] Go.wp_at_zero Go.wp_at_succ

/-- How the bits are read, by their parts. -/
theorem read_parts (b e0 m0 : Nat) (ng : Bool) (hb : b < 2 ^ 64) (he : e0 = b / 4503599627370496 % 2048) (hm : m0 = b % 4503599627370496) (hn : ng = decide (9223372036854775808 ≤ b)) :
    (e0 = 0 → double.read b = .number ng m0 (-1074)) ∧ (0 < e0 → e0 < 2047 → double.read b = .number ng (4503599627370496 + m0) (-1074 + ((e0 - 1 : Nat) : Int))) ∧ (e0 = 2047 → (∃ s, double.read b = .infinity s) ∨ ∃ s t, double.read b = .nan s t) := by
  have hsw : double.signWeight = 9223372036854775808 := by decide
  have hbi : double.binade = 4503599627370496 := by decide
  have hi : double.infRung = 2047 * 4503599627370496 := by decide
  have hlp : double.leastPlace = -1074 := by decide
  have e1 : (b / 9223372036854775808 % 2 == 1) = ng := by
    rw [hn]
    by_cases h : 9223372036854775808 ≤ b
    · have : b / 9223372036854775808 = 1 := by omega
      simp [this, h]
    · have : b / 9223372036854775808 = 0 := by omega
      simp [this, h]
  have hq : b % 9223372036854775808 / 4503599627370496 = e0 := by omega
  have hr : b % 9223372036854775808 % 4503599627370496 = m0 := by omega
  unfold Ieee.Format.read
  simp only [hsw, hbi, hi, hlp, e1]
  refine ⟨fun h => ?_, fun h1 h2 => ?_, fun h => ?_⟩
  · rw [if_pos (by omega), show b % 9223372036854775808 = m0 by omega]
  · rw [if_neg (by omega), if_pos (by omega), hq, hr]
  · rw [if_neg (by omega), if_neg (by omega)]
    split
    · exact .inl ⟨_, rfl⟩
    · exact .inr ⟨_, _, rfl⟩

/-- May it be, by its magnitude in units. -/
theorem mayB_mag {b M k V : Nat} {ng : Bool} {p : Int} (h : double.read b = .number ng M p) (hk : (p + 1074).toNat = k) (hV : V = M * 2 ^ k) : mayB b = (decide (V < 2 ^ 1174) && decide (2 ^ 974 ∣ V)) ∧ valB b = if ng then -(V : Int) else (V : Int) := by
  have e1 : signed ng M k = if ng then -(V : Int) else (V : Int) := by
    rw [PlRd.signed_eq, hV, PlRd.cast_two_pow]; split <;> simp [Int.neg_mul]
  constructor
  · unfold mayB
    rw [h]
    simp only [hk, e1]
    have a1 : (if ng then -(V : Int) else (V : Int)).natAbs = V := by split <;> simp
    have a2 : ((2 : Int) ^ 974 ∣ if ng then -(V : Int) else (V : Int)) ↔ 2 ^ 974 ∣ V := by
      have c := cast_pow2 974
      rw [← c]
      split
      · rw [Int.dvd_neg]; exact Int.ofNat_dvd
      · exact Int.ofNat_dvd
    rw [a1]
    congr 1
    exact decide_eq_decide.2 a2
  · unfold valB
    rw [h]
    simp only [hk, e1]

theorem not_dvd_odd {M k a : Nat} (h : M % 2 = 1) (hk : k < a) : ¬ 2 ^ a ∣ M * 2 ^ k := by
  intro hd
  obtain ⟨t, rfl⟩ := Nat.exists_eq_add_of_lt hk
  rw [show k + t + 1 = (t + 1) + k by omega, Nat.pow_add] at hd
  have h2 := Nat.dvd_of_mul_dvd_mul_right (Nat.two_pow_pos k) hd
  rw [Nat.pow_succ] at h2
  have : 2 ∣ M := Nat.dvd_trans (Nat.dvd_mul_left 2 (2 ^ t)) h2
  omega

end Go.Proofs.YtbjjkfmdkmbcfaaGreat
