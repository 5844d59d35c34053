import Derived.Test.YtbjjkfmdkmbcfaaWz
import Derived.Test.YtbjjkfmdkmbcfaaHa
namespace Go.Proofs.Ytbjjkfmdkmbcfaa
open Go.RowKit
open PlRd

attribute [local go_sem ↓] Go.wp_at_zero Go.wp_at_succ

/-- How two numbers stand. -/
def cmpI (x y : Int) : Int := if x < y then -1 else if y < x then 1 else 0

theorem is_eqs {b : Nat} {x : Int} (h : Is b x) : FloatKind.f64.format.order b b = some .eq := by
  rcases ord_of h h with ⟨h1, _⟩ | ⟨_, h2⟩ | ⟨h1, _⟩
  · omega
  · exact h2
  · omega

set_option maxHeartbeats 2000000 in
set_option maxRecDepth 100000 in
theorem isNaNF (b : Nat) (x : Int) (w : World) (h : Is b x) : Calls Try.prog 72 #[.float .f64 b] w fun e w' => e = .returned (.bool false) ∧ w' = w := by
  have hs := is_eqs h
  clear h
  go_enter Try.func72, Try.ntmps72
  go_wp2
  go_ret
  exact ⟨rfl, rfl⟩

set_option maxHeartbeats 2000000 in
set_option maxRecDepth 100000 in
theorem isNaNI (x : Int) (w : World) : Calls Try.prog 73 #[.int .i64 x] w fun e w' => e = .returned (.bool false) ∧ w' = w := by
  go_enter Try.func73, Try.ntmps73
  go_wp2
  go_ret
  exact ⟨by simp, rfl⟩

set_option maxHeartbeats 2000000 in
set_option maxRecDepth 100000 in
theorem cmpF_is (a b : Nat) (x y : Int) (w : World) (ha : Is a x) (hb : Is b y) : Calls Try.prog 59 #[.float .f64 a, .float .f64 b] w fun e w' => e = .returned (.int .i64 (cmpI x y)) ∧ w' = w := by
  have h1 := fun V => isNaNF a x V ha
  have h2 := fun V => isNaNF b y V hb
  have o1 := ord_of ha hb
  have o2 := ord_of hb ha
  clear ha hb
  obtain ⟨r, hr⟩ : ∃ r, r = cmpI x y := ⟨_, rfl⟩
  rw [← hr]
  unfold cmpI at hr
  have HR : Hid (r = if x < y then -1 else if y < x then 1 else 0) := hr
  clear hr
  go_enter Try.func59, Try.ntmps59
  rcases o1 with ⟨g, o1⟩ | ⟨g, o1⟩ | ⟨g, o1⟩ <;> rcases o2 with ⟨g2, o2⟩ | ⟨g2, o2⟩ | ⟨g2, o2⟩
  all_goals first | (exfalso; omega) | skip
  all_goals
    go_wp2_with (first | (go_at_call 72; have q1 := n1; go_must (refine (h2 _).mono ?_; rintro e w2 ⟨rfl, rfl⟩)) | (go_at_call 72; go_must (refine (h1 _).mono ?_; rintro e w1 ⟨rfl, rfl⟩; have n1 : True := trivial)))
    go_ret
    refine ⟨?_, rfl⟩
    have h := HR.out
    rw [h]
    first | (rw [if_pos (by omega)]; rfl) | (rw [if_neg (by omega), if_pos (by omega)]; rfl) | (rw [if_neg (by omega), if_neg (by omega)]; rfl)

set_option maxHeartbeats 2000000 in
set_option maxRecDepth 100000 in
theorem cmpI_is (x y : Int) (w : World) : Calls Try.prog 60 #[.int .i64 x, .int .i64 y] w fun e w' => e = .returned (.int .i64 (cmpI x y)) ∧ w' = w := by
  have h1 := fun x V => isNaNI x V
  obtain ⟨r, hr⟩ : ∃ r, r = cmpI x y := ⟨_, rfl⟩
  rw [← hr]
  unfold cmpI at hr
  have HR : Hid (r = if x < y then -1 else if y < x then 1 else 0) := hr
  clear hr
  go_enter Try.func60, Try.ntmps60
  go_wp2_with (first | (go_at_call 73; go_must (refine (h1 _ _).mono ?_; rintro e w1 ⟨rfl, rfl⟩)))
  all_goals
    go_ret
    refine ⟨?_, rfl⟩
    have h := HR.out
    rw [h]
    first | (rw [if_pos (by omega)]; rfl) | (rw [if_neg (by omega), if_pos (by omega)]; rfl) | (rw [if_neg (by omega), if_neg (by omega)]; rfl)

end Go.Proofs.Ytbjjkfmdkmbcfaa
