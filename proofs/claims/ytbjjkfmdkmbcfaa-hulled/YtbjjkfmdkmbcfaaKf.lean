import Derived.Test.YtbjjkfmdkmbcfaaKe
namespace Go.Proofs.Ytbjjkfmdkmbcfaa
open Go.RowKit
open PlRd (sgn)

attribute [local go_sem ↓] Go.wp_at_zero Go.wp_at_succ

/-- What Orient answers. -/
structure ORt (ax ay bx by' cx cy : Nat) (n E : Int) : Prop where
  out : ∀ V, Calls Try.prog 10 #[.agg #[.int .u64 ax, .int .u64 ay], .agg #[.int .u64 bx, .int .u64 by'], .agg #[.int .u64 cx, .int .u64 cy]] V fun e w' => Below V.heap.size V w' ∧ e = .returned (.tuple #[.int .i64 n, .int .i64 E])
theorem ORt.use {ax ay bx by' cx cy : Nat} {n E : Int} (h : ORt ax ay bx by' cx cy n E) (V : World) : Calls Try.prog 10 #[.agg #[.int .u64 ax, .int .u64 ay], .agg #[.int .u64 bx, .int .u64 by'], .agg #[.int .u64 cx, .int .u64 cy]] V fun e w' => Below V.heap.size V w' ∧ e = .returned (.tuple #[.int .i64 n, .int .i64 E]) := h.out V

/-- What InCircle answers. -/
structure CRt (ax ay bx by' cx cy dx dy : Nat) (n E : Int) : Prop where
  out : ∀ V, Calls Try.prog 11 #[.agg #[.int .u64 ax, .int .u64 ay], .agg #[.int .u64 bx, .int .u64 by'], .agg #[.int .u64 cx, .int .u64 cy], .agg #[.int .u64 dx, .int .u64 dy]] V fun e w' => Below V.heap.size V w' ∧ e = .returned (.tuple #[.int .i64 n, .int .i64 E])
theorem CRt.use {ax ay bx by' cx cy dx dy : Nat} {n E : Int} (h : CRt ax ay bx by' cx cy dx dy n E) (V : World) : Calls Try.prog 11 #[.agg #[.int .u64 ax, .int .u64 ay], .agg #[.int .u64 bx, .int .u64 by'], .agg #[.int .u64 cx, .int .u64 cy], .agg #[.int .u64 dx, .int .u64 dy]] V fun e w' => Below V.heap.size V w' ∧ e = .returned (.tuple #[.int .i64 n, .int .i64 E]) := h.out V

def L64 (ps : List (Nat × Nat)) : Prop := ∀ p ∈ ps, p.1 < 2 ^ 64 ∧ p.2 < 2 ^ 64

def oE (ps : List (Nat × Nat)) : Int := if okPts ps then 0 else 1
def oS (a b c : Nat × Nat) : Int := if okPts [a, b, c] then sgn (turnV a b c) else 0
def cV (a b c d : Nat × Nat) : Int := circI (valB a.1 - valB d.1) (valB a.2 - valB d.2) (valB b.1 - valB d.1) (valB b.2 - valB d.2) (valB c.1 - valB d.1) (valB c.2 - valB d.2)
def cS (a b c d : Nat × Nat) : Int := if okPts [a, b, c, d] then sgn (cV a b c d) else 0

theorem orient_all (a b c : Nat × Nat) (h : L64 [a, b, c]) : ORt a.1 a.2 b.1 b.2 c.1 c.2 (oS a b c) (oE [a, b, c]) := by
  constructor
  intro V
  unfold oS oE
  cases hk : okPts [a, b, c]
  · exact orient_no a.1 a.2 b.1 b.2 c.1 c.2 V h hk
  · exact orient_ok a.1 a.2 b.1 b.2 c.1 c.2 V h hk

theorem circle_all (a b c d : Nat × Nat) (h : L64 [a, b, c, d]) : CRt a.1 a.2 b.1 b.2 c.1 c.2 d.1 d.2 (cS a b c d) (oE [a, b, c, d]) := by
  constructor
  intro V
  unfold cS oE
  cases hk : okPts [a, b, c, d]
  · exact circle_no a.1 a.2 b.1 b.2 c.1 c.2 d.1 d.2 V h hk
  · exact circle_ok a.1 a.2 b.1 b.2 c.1 c.2 d.1 d.2 V h hk

theorem sgn_neg (x : Int) : sgn (-x) = -sgn x := by
  unfold sgn
  repeat' split
  all_goals omega
theorem sgn_small (x : Int) : -1 ≤ sgn x ∧ sgn x ≤ 1 := by
  unfold sgn
  repeat' split
  all_goals omega

theorem turnV_round (a b c : Nat × Nat) : turnV b c a = turnV a b c := by unfold turnV; grind
theorem turnV_swap (a b c : Nat × Nat) : turnV b a c = - turnV a b c := by unfold turnV; grind
theorem cV_round (a b c d : Nat × Nat) : cV b c a d = cV a b c d := by unfold cV circI sqI crI; grind
theorem cV_swap (a b c d : Nat × Nat) : cV b a c d = - cV a b c d := by unfold cV circI sqI crI; grind

theorem ok_round (a b c : Nat × Nat) (l : List (Nat × Nat)) : okPts (b :: c :: a :: l) = okPts (a :: b :: c :: l) := by
  unfold okPts
  simp only [List.all_cons]
  ac_rfl
theorem ok_swap (a b : Nat × Nat) (l : List (Nat × Nat)) : okPts (b :: a :: l) = okPts (a :: b :: l) := by
  unfold okPts
  simp only [List.all_cons]
  ac_rfl
theorem ok_less (a b c d : Nat × Nat) (h : okPts [a, b, c, d] = true) : okPts [a, b, c] = true := by
  unfold okPts at *
  simp only [List.all_cons, List.all_nil, Bool.and_eq_true, Bool.and_true] at *
  exact ⟨h.1, h.2.1, h.2.2.1⟩

end Go.Proofs.Ytbjjkfmdkmbcfaa
