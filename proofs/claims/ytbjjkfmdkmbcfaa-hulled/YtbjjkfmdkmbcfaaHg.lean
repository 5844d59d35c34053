import Derived.Test.YtbjjkfmdkmbcfaaHf
namespace Go.Proofs.Ytbjjkfmdkmbcfaa
open Go.RowKit
open PlRd
open HL (cr lx)

attribute [local go_sem ↓] Go.wp_at_zero Go.wp_at_succ

theorem equalIn_float {P : Program} (d : Nat) (t : TypeId) (a b : Nat) (W : World) (ht : P.underlying t = some (.float .f64)) : (Op.equalIn (d + 1) t (.float .f64 a) (.float .f64 b)).run P W = .ok (FloatKind.f64.format.order a b == some .eq) W := by
  simp [Op.equalIn, run_underlying ht, Op.floatEq]

theorem eqF_no (a b : Nat) (W : World) (h : FloatKind.f64.format.order a b ≠ some .eq) : (Op.equalIn 9999 53 (.float .f64 a) (.float .f64 b)).run Try.prog W = .ok false W := by
  rw [equalIn_float 9998 _ _ _ _ Try.underlying53]
  cases ho : FloatKind.f64.format.order a b with
  | none => rfl
  | some o => cases o <;> first | rfl | exact absurd ho h

theorem eqF_yes (a b : Nat) (W : World) (h : FloatKind.f64.format.order a b = some .eq) : (Op.equalIn 9999 53 (.float .f64 a) (.float .f64 b)).run Try.prog W = .ok true W := by
  rw [equalIn_float 9998 _ _ _ _ Try.underlying53, h]
  rfl

set_option maxHeartbeats 8000000 in
set_option maxRecDepth 100000 in
theorem clo2 (i j bx G n c : Nat) (f : Nat → Nat × Nat) (X : Nat → Int × Int) (w : World) (hi : i < n) (hj : j < n) (_ : bx < w.heap.size) (hbox : w.cell? ⟨bx, 0, none⟩ = some (.slice (some ⟨G, 0, none⟩) n c)) (H : SpX w G n f X) :
    Calls Try.prog 62 #[.int .i64 i, .int .i64 j, .pointer (some ⟨bx, 0, none⟩)] w fun e w' => e = .returned (.bool (decide (X i = X j))) ∧ ∃ q, w' = w.drewN q := by
  obtain ⟨⟨hi0, hi1⟩, ci0, ci1⟩ := H.cs i hi
  obtain ⟨⟨hj0, hj1⟩, cj0, cj1⟩ := H.cs j hj
  have hG := H.lt
  have o1 := ord_of ci0.1 cj0.1
  have o2 := ord_of ci1.1 cj1.1
  have hp := EU_pos
  obtain ⟨r, hr⟩ : ∃ r, r = decide (X i = X j) := ⟨_, rfl⟩
  rw [← hr]
  have HR : Hid (r = decide (X i = X j)) := hr
  have E1 : Hid ((X i).1 * EU = (X j).1 * EU ↔ (X i).1 = (X j).1) := ⟨fun h => Int.eq_of_mul_eq_mul_right (by omega) h, fun h => by rw [h]⟩
  have E2 : Hid ((X i).2 * EU = (X j).2 * EU ↔ (X i).2 = (X j).2) := ⟨fun h => Int.eq_of_mul_eq_mul_right (by omega) h, fun h => by rw [h]⟩
  clear hr H ci0 ci1 cj0 cj1
  generalize (f i).1 = ix at *
  generalize (f i).2 = iy at *
  generalize (f j).1 = jx at *
  generalize (f j).2 = jy at *
  have hw0 : w.drewN 0 = w := rfl
  rcases o1 with ⟨g1, o1⟩ | ⟨g1, o1⟩ | ⟨g1, o1⟩ <;> rcases o2 with ⟨g2, o2⟩ | ⟨g2, o2⟩ | ⟨g2, o2⟩
  all_goals
    have q1 := fun W => (by first | exact eqF_yes ix jx W o1 | exact eqF_no ix jx W (by rw [o1]; simp) : (Op.equalIn 9999 53 (.float .f64 ix) (.float .f64 jx)).run Try.prog W = .ok _ W)
    have q2 := fun W => (by first | exact eqF_yes iy jy W o2 | exact eqF_no iy jy W (by rw [o2]; simp) : (Op.equalIn 9999 53 (.float .f64 iy) (.float .f64 jy)).run Try.prog W = .ok _ W)
    clear o1 o2
    go_enter Try.func62, Try.ntmps62
    go_wp2_with fail
    go_region_held3 (fun w' : World => (w'.cell? ⟨bx, 0, none⟩ = some (.slice (some ⟨G, 0, none⟩) n c) ∧ w'.cell? ⟨G, i * 2, none⟩ = some (.float .f64 ix) ∧ w'.cell? ⟨G, i * 2 + 1, none⟩ = some (.float .f64 iy) ∧ w'.cell? ⟨G, j * 2, none⟩ = some (.float .f64 jx) ∧ w'.cell? ⟨G, j * 2 + 1, none⟩ = some (.float .f64 jy))) (exact ⟨hbox, hi0, hi1, hj0, hj1⟩) (fail)
    all_goals
      go_wp2
      go_ret
      refine ⟨ret_bool ?_, 1, rfl⟩
      rw [HR.out]
      have e1 := E1.out
      have e2 := E2.out
      clear E1 E2 HR
      symm
      first
        | (rw [decide_eq_true_eq]; exact Prod.ext (e1.1 (by omega)) (e2.1 (by omega)))
        | (rw [decide_eq_false_iff_not]; intro h; rw [h] at e1 e2; omega)
        | (rw [decide_eq_false_iff_not]; intro h; rw [h] at g1 g2; omega)

end Go.Proofs.Ytbjjkfmdkmbcfaa
