import Derived.Test.YtbjjkfmdkmbcfaaGreatMWx
import Derived.Test.YtbjjkfmdkmbcfaaGreatMMw
namespace Go.Proofs.YtbjjkfmdkmbcfaaGreat
open Go.RowKit
open PlRd

attribute [local go_sem ↓] Go.wp_at_zero Go.wp_at_succ

theorem ret_bool {a b : Bool} (h : a = b) : Ending.returned (.bool a) = .returned (.bool b) := by rw [h]

theorem ord_of {a b : Nat} {x y : Int} (h : Is a x) (k : Is b y) : (x < y ∧ FloatKind.f64.format.order a b = some .lt) ∨ (x = y ∧ FloatKind.f64.format.order a b = some .eq) ∨ (y < x ∧ FloatKind.f64.format.order a b = some .gt) := by
  have ho : FloatKind.f64.format.order a b = some (compare x y) := is_order h k
  rcases Int.lt_trichotomy x y with h | h | h
  · exact .inl ⟨h, by rw [ho, show compare x y = .lt by simp [compare, compareOfLessAndEq, h]]⟩
  · subst h; exact .inr (.inl ⟨rfl, by rw [ho]; simp⟩)
  · exact .inr (.inr ⟨h, by rw [ho, show compare x y = .gt by simp [compare, compareOfLessAndEq, show ¬ x < y by omega, show ¬ x = y by omega]]⟩)

set_option maxHeartbeats 1000000 in
theorem leastF_any (a b g c : Nat) (A B : Int) (w : World) (hc : w.cell? ⟨g, 0, none⟩ = some (.float .f64 b)) (ha : Is a A) (hb : Is b B) :
    Calls Tryz.prog 89 #[.float .f64 a, .slice (some ⟨g, 0, none⟩) 1 c] w fun e w' => e = .returned (.float .f64 (if B < A then b else a)) ∧ w' = w := by
  rcases ord_of hb ha with ⟨h, ho⟩ | ⟨h, ho⟩ | ⟨h, ho⟩
  · rw [if_pos (by omega)]
    clear ha hb h
    go_enter Tryz.func89, Tryz.ntmps89
    go_wp2
    refine wp_loop_rounds 2 ?_
    rw [rounds_succ]
    go_wp2
    rw [rounds_succ]
    go_wp2
    go_ret
    exact ⟨rfl, rfl⟩
  · rw [if_neg (by omega)]
    clear ha hb h
    go_enter Tryz.func89, Tryz.ntmps89
    go_wp2
    refine wp_loop_rounds 2 ?_
    rw [rounds_succ]
    go_wp2
    rw [rounds_succ]
    go_wp2
    go_ret
    exact ⟨rfl, rfl⟩
  · rw [if_neg (by omega)]
    clear ha hb h
    go_enter Tryz.func89, Tryz.ntmps89
    go_wp2
    refine wp_loop_rounds 2 ?_
    rw [rounds_succ]
    go_wp2
    rw [rounds_succ]
    go_wp2
    go_ret
    exact ⟨rfl, rfl⟩

set_option maxHeartbeats 1000000 in
theorem greatestF_any (a b g c : Nat) (A B : Int) (w : World) (hc : w.cell? ⟨g, 0, none⟩ = some (.float .f64 b)) (ha : Is a A) (hb : Is b B) :
    Calls Tryz.prog 90 #[.float .f64 a, .slice (some ⟨g, 0, none⟩) 1 c] w fun e w' => e = .returned (.float .f64 (if A < B then b else a)) ∧ w' = w := by
  rcases ord_of hb ha with ⟨h, ho⟩ | ⟨h, ho⟩ | ⟨h, ho⟩
  · rw [if_neg (by omega)]
    clear ha hb h
    go_enter Tryz.func90, Tryz.ntmps90
    go_wp2
    refine wp_loop_rounds 2 ?_
    rw [rounds_succ]
    go_wp2
    rw [rounds_succ]
    go_wp2
    go_ret
    exact ⟨rfl, rfl⟩
  · rw [if_neg (by omega)]
    clear ha hb h
    go_enter Tryz.func90, Tryz.ntmps90
    go_wp2
    refine wp_loop_rounds 2 ?_
    rw [rounds_succ]
    go_wp2
    rw [rounds_succ]
    go_wp2
    go_ret
    exact ⟨rfl, rfl⟩
  · rw [if_pos (by omega)]
    clear ha hb h
    go_enter Tryz.func90, Tryz.ntmps90
    go_wp2
    refine wp_loop_rounds 2 ?_
    rw [rounds_succ]
    go_wp2
    rw [rounds_succ]
    go_wp2
    go_ret
    exact ⟨rfl, rfl⟩

set_option maxHeartbeats 1000000 in
theorem leastI_any (s t : Int) (g c : Nat) (w : World) (hc : w.cell? ⟨g, 0, none⟩ = some (.int .i64 t)) :
    Calls Tryz.prog 74 #[.int .i64 s, .slice (some ⟨g, 0, none⟩) 1 c] w fun e w' => e = .returned (.int .i64 (if t < s then t else s)) ∧ w' = w := by
  by_cases h : t < s
  · rw [if_pos h]
    go_enter Tryz.func74, Tryz.ntmps74
    go_wp2
    refine wp_loop_rounds 2 ?_
    rw [rounds_succ]
    go_wp2
    rw [rounds_succ]
    go_wp2
    go_ret
    exact ⟨rfl, rfl⟩
  · rw [if_neg h]
    go_enter Tryz.func74, Tryz.ntmps74
    go_wp2
    refine wp_loop_rounds 2 ?_
    rw [rounds_succ]
    go_wp2
    rw [rounds_succ]
    go_wp2
    go_ret
    exact ⟨rfl, rfl⟩

set_option maxHeartbeats 1000000 in
theorem greatestI_any (s t : Int) (g c : Nat) (w : World) (hc : w.cell? ⟨g, 0, none⟩ = some (.int .i64 t)) :
    Calls Tryz.prog 75 #[.int .i64 s, .slice (some ⟨g, 0, none⟩) 1 c] w fun e w' => e = .returned (.int .i64 (if s < t then t else s)) ∧ w' = w := by
  by_cases h : s < t
  · rw [if_pos h]
    go_enter Tryz.func75, Tryz.ntmps75
    go_wp2
    refine wp_loop_rounds 2 ?_
    rw [rounds_succ]
    go_wp2
    rw [rounds_succ]
    go_wp2
    go_ret
    exact ⟨rfl, rfl⟩
  · rw [if_neg h]
    go_enter Tryz.func75, Tryz.ntmps75
    go_wp2
    refine wp_loop_rounds 2 ?_
    rw [rounds_succ]
    go_wp2
    rw [rounds_succ]
    go_wp2
    go_ret
    exact ⟨rfl, rfl⟩

/-- x is a, b or between them. -/
def btw (X A B : Int) : Bool := decide (sgn (X - A) * sgn (X - B) ≤ 0)

theorem btw_iff (X A B : Int) : btw X A B = (decide ((if B < A then B else A) ≤ X) && decide (X ≤ (if A < B then B else A))) := by
  have e : btw X A B = true ↔ ((if B < A then B else A) ≤ X ∧ X ≤ (if A < B then B else A)) := by
    unfold btw sgn
    rw [decide_eq_true_eq]
    rcases Int.lt_trichotomy X A with h1 | h1 | h1 <;> rcases Int.lt_trichotomy X B with h2 | h2 | h2 <;> split <;> split <;> split <;> split <;> (try split) <;> (try split) <;> omega
  cases hb : btw X A B
  · symm; rw [← Bool.not_eq_true, Bool.and_eq_true, decide_eq_true_eq, decide_eq_true_eq, ← e, hb]; simp
  · symm; rw [Bool.and_eq_true, decide_eq_true_eq, decide_eq_true_eq, ← e, hb]

set_option maxHeartbeats 2000000 in
theorem betweenF_any (x a b : Nat) (X A B : Int) (w : World) (hx : Is x X) (ha : Is a A) (hb : Is b B) :
    Calls Tryz.prog 76 #[.float .f64 x, .float .f64 a, .float .f64 b] w fun e w' => e = .returned (.bool (btw X A B)) ∧ Below w.heap.size w w' := by
  rw [btw_iff]
  obtain ⟨m, M, hm, hM, em, eM⟩ : ∃ m M, Is m M ∧ M = (if B < A then B else A) ∧ m = (if B < A then b else a) ∧ True := ⟨_, _, by split <;> assumption, rfl, rfl, trivial⟩
  obtain ⟨n, N, hn, hN, en, eN⟩ : ∃ n N, Is n N ∧ N = (if A < B then B else A) ∧ n = (if A < B then b else a) ∧ True := ⟨_, _, by split <;> assumption, rfl, rfl, trivial⟩
  rw [← hM, ← hN]
  have HL : Hid (∀ (W : World) (g : Nat), W.cell? ⟨g, 0, none⟩ = some (.float .f64 b) → Calls Tryz.prog 89 #[.float .f64 a, .slice (some ⟨g, 0, none⟩) 1 1] W fun e w' => e = .returned (.float .f64 m) ∧ w' = W) := fun W g hc => by rw [em]; exact leastF_any a b g 1 A B W hc ha hb
  have HG : Hid (∀ (W : World) (g : Nat), W.cell? ⟨g, 0, none⟩ = some (.float .f64 b) → Calls Tryz.prog 90 #[.float .f64 a, .slice (some ⟨g, 0, none⟩) 1 1] W fun e w' => e = .returned (.float .f64 n) ∧ w' = W) := fun W g hc => by rw [en]; exact greatestF_any a b g 1 A B W hc ha hb
  have HM : Hid (FloatKind.f64.format.order m x = some .gt → ¬ M ≤ X) := fun h => by
    rcases ord_of hm hx with ⟨_, h2⟩ | ⟨_, h2⟩ | ⟨h1, _⟩
    · rw [h] at h2; cases h2
    · rw [h] at h2; cases h2
    · omega
  have o1 := ord_of hm hx
  have o2 := ord_of hx hn
  clear hm hn em en hM hN ha hb hx eM eN HM
  rcases o1 with ⟨h1, p1⟩ | ⟨h1, p1⟩ | ⟨h1, p1⟩
  all_goals
    rcases o2 with ⟨h2, p2⟩ | ⟨h2, p2⟩ | ⟨h2, p2⟩
  all_goals
    obtain ⟨bb, hbb⟩ : ∃ bb, bb = (decide (M ≤ X) && decide (X ≤ N)) := ⟨_, rfl⟩
    rw [← hbb]
    have hbb2 : Hid (bb = (decide (M ≤ X) && decide (X ≤ N))) := hbb
    clear hbb
    have q1 : Hid (M ≤ X ∨ ¬ M ≤ X) := Decidable.em _
    go_enter Tryz.func76, Tryz.ntmps76
    go_wp2_with (first | (go_at_call 89; go_must (refine (HL.out _ _ (by simp [go_sem])).mono ?_; rintro e w1 ⟨rfl, rfl⟩)) | (go_at_call 90; go_must (refine (HG.out _ _ (by simp [go_sem])).mono ?_; rintro e w2 ⟨rfl, rfl⟩)))
    go_ret
    refine ⟨ret_bool ?_, ?_⟩
    · rw [hbb2.out]; simp <;> omega
    · repeat (first | exact Below.refl _ _ | refine Below.drew ?_ | refine Below.alloc ?_ (by simp <;> omega) _)

end Go.Proofs.YtbjjkfmdkmbcfaaGreat
