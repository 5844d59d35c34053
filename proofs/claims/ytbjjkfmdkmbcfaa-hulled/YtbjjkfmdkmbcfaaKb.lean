import Derived.Test.YtbjjkfmdkmbcfaaKa
import Derived.Test.YtbjjkfmdkmbcfaaHr
import Derived.Test.YtbjjkfmdkmbcfaaOf
namespace Go.Proofs.Ytbjjkfmdkmbcfaa
open Go.Shelf Go.RowKit Go.Lib Go.Sort
open PlRd (sgn)
open HL (cr lx popW chainR hullL)

attribute [local go_sem ↓] Go.wp_at_zero Go.wp_at_succ

abbrev B1 : Nat := 4607182418800017408
abbrev B2 : Nat := 4611686018427387904
abbrev B4 : Nat := 4616189618054758400

theorem bits_one (p : Int) (b : Nat) (w : World) (hp : 0 ≤ p) (hp2 : p ≤ 2) (hb : (b : Int) = (1023 + p) * 4503599627370496) : Calls Try.prog 20 #[.int .i64 1, .int .i64 p] w fun e w' => w' = w ∧ e = .returned (.int .u64 (b : Int)) := by
  refine (bits_walk 1 p w (by omega) (by decide) (by omega) (by omega) ?_).mono ?_
  · have h1 : (p + 100).toNat ≤ 199 := by omega
    have h2 := Nat.pow_le_pow_right (n := 2) (by omega) h1
    have h3 : (2 : Nat) ^ 199 < 2 ^ 200 := by decide
    have h4 : Int.natAbs 1 = 1 := rfl
    rw [h4, Nat.one_mul]
    exact Nat.lt_of_le_of_lt h2 h3
  · rintro e w' ⟨rfl, b', rfl, h⟩
    refine ⟨rfl, ?_⟩
    rw [h.2 rfl, hb]

/-- The document's fourth example, cut short. -/
def kps : List (Nat × Nat) := [(0, 0), (B4, 0), (B1, 0), (B1, B1)]

theorem kps_ok : okPts kps = true := by decide +kernel
theorem kps_64 : ∀ p ∈ kps, p.1 < 2 ^ 64 ∧ p.2 < 2 ^ 64 := by decide
theorem kps_srt : Srt (crdX kps) 4 [0, 2, 3, 1] := ⟨by decide, by decide +kernel⟩
theorem kps_hull : hullL (crdX kps) (ordL (crdX kps) [0, 2, 3, 1]) = [0, 1, 3] := by decide +kernel
theorem k_turn1 : okPts [(0, 0), (B4, 0), (B1, B1)] = true ∧ sgn (turnV (0, 0) (B4, 0) (B1, B1)) = 1 := by decide +kernel
theorem k_turn0 : okPts [(0, 0), (B4, 0), (B2, 0)] = true ∧ sgn (turnV (0, 0) (B4, 0) (B2, 0)) = 0 := by decide +kernel

end Go.Proofs.Ytbjjkfmdkmbcfaa
