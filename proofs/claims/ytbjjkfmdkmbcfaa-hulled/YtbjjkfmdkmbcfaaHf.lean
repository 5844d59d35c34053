import Derived.Test.YtbjjkfmdkmbcfaaHe
namespace Go.Proofs.Ytbjjkfmdkmbcfaa
open Go.RowKit
open PlRd
open HL (cr lx)

attribute [local go_sem ↓] Go.wp_at_zero Go.wp_at_succ

/-- The spots of a list of bits lie at G; each coordinate is the number X. -/
structure SpX (w : World) (G n : Nat) (f : Nat → Nat × Nat) (X : Nat → Int × Int) : Prop where
  lt : G < w.heap.size
  cs : ∀ i, i < n → (w.cell? ⟨G, i * 2, none⟩ = some (.float .f64 (f i).1) ∧ w.cell? ⟨G, i * 2 + 1, none⟩ = some (.float .f64 (f i).2)) ∧ Cr (f i).1 (X i).1 ∧ Cr (f i).2 (X i).2

theorem SpX.kept {w w' : World} {G n : Nat} {f : Nat → Nat × Nat} {X : Nat → Int × Int} (h : SpX w G n f X) (hb : Below w.heap.size w w') : SpX w' G n f X := by
  obtain ⟨hc, _⟩ := bcell hb
  refine ⟨Nat.lt_of_lt_of_le h.lt hb.size, fun i hi => ?_⟩
  rw [hc _ _ h.lt, hc _ _ h.lt]
  exact h.cs i hi

/-- How the numbers i and j stand in the order from the left. -/
def lexI (X : Nat → Int × Int) (i j : Nat) : Int := orI (cmpI (X i).1 (X j).1) (cmpI (X i).2 (X j).2) (cmpI (i : Int) (j : Int))

/-- Nothing was turned, and the draws went on. -/
structure Gr (w w' : World) : Prop where
  below : Below w.heap.size w w'
  drawn : w.drawn ≤ w'.drawn

theorem cmpF_cr (a b : Nat) (x y : Int) (w : World) (ha : Cr a x) (hb : Cr b y) : Calls Try.prog 59 #[.float .f64 a, .float .f64 b] w fun e w' => e = .returned (.int .i64 (cmpI x y)) ∧ w' = w := by
  have h := cmpF_is a b (x * EU) (y * EU) w ha.1 hb.1
  have e : cmpI (x * EU) (y * EU) = cmpI x y := by
    unfold cmpI
    have hp := EU_pos
    simp only [Int.mul_lt_mul_right hp]
  rwa [e] at h

set_option maxHeartbeats 8000000 in
set_option maxRecDepth 100000 in
theorem clo1 (i j bx G n c : Nat) (f : Nat → Nat × Nat) (X : Nat → Int × Int) (w : World) (hi : i < n) (hj : j < n) (hb : bx < w.heap.size) (hbox : w.cell? ⟨bx, 0, none⟩ = some (.slice (some ⟨G, 0, none⟩) n c)) (H : SpX w G n f X) :
    Calls Try.prog 57 #[.int .i64 i, .int .i64 j, .pointer (some ⟨bx, 0, none⟩)] w fun e w' => e = .returned (.int .i64 (lexI X i j)) ∧ Gr w w' := by
  obtain ⟨⟨hi0, hi1⟩, ci0, ci1⟩ := H.cs i hi
  obtain ⟨⟨hj0, hj1⟩, cj0, cj1⟩ := H.cs j hj
  unfold lexI
  have hG := H.lt
  generalize (X i).1 = xi at *
  generalize (X i).2 = yi at *
  generalize (X j).1 = xj at *
  generalize (X j).2 = yj at *
  generalize (f i).1 = ix at *
  generalize (f i).2 = iy at *
  generalize (f j).1 = jx at *
  generalize (f j).2 = jy at *
  clear H
  go_enter Try.func57, Try.ntmps57
  have KS : ∀ w', Below w.heap.size w w' → (w'.cell? ⟨bx, 0, none⟩ = some (.slice (some ⟨G, 0, none⟩) n c) ∧ w'.cell? ⟨G, i * 2, none⟩ = some (.float .f64 ix) ∧ w'.cell? ⟨G, i * 2 + 1, none⟩ = some (.float .f64 iy) ∧ w'.cell? ⟨G, j * 2, none⟩ = some (.float .f64 jx) ∧ w'.cell? ⟨G, j * 2 + 1, none⟩ = some (.float .f64 jy)) := by
    intro w' h
    obtain ⟨hc, _⟩ := bcell h
    rw [hc _ _ hb, hc _ _ hG, hc _ _ hG, hc _ _ hG, hc _ _ hG]
    exact ⟨hbox, hi0, hi1, hj0, hj1⟩
  go_wp2_with fail
  go_region_held3 (fun w' : World => (w'.cell? ⟨bx, 0, none⟩ = some (.slice (some ⟨G, 0, none⟩) n c) ∧ w'.cell? ⟨G, i * 2, none⟩ = some (.float .f64 ix) ∧ w'.cell? ⟨G, i * 2 + 1, none⟩ = some (.float .f64 iy) ∧ w'.cell? ⟨G, j * 2, none⟩ = some (.float .f64 jx) ∧ w'.cell? ⟨G, j * 2 + 1, none⟩ = some (.float .f64 jy))) (exact KS _ (by repeat (with_reducible first | refine below_alloc _ ?_ | refine Below.drew ?_ | exact Below.refl _ _))) (first | (go_at_call 59; go_must (refine (cmpF_cr _ _ _ _ _ (by assumption) (by assumption)).mono ?_; rintro e w1 ⟨rfl, rfl⟩)) | (go_at_call 60; go_must (refine (cmpI_is _ _ _).mono ?_; rintro e w3 ⟨rfl, rfl⟩)) | (go_at_call 58; go_must (refine (or_any _ _ _ _ _ _ (by simp [go_sem]; rfl) (by simp [go_sem]; rfl) (by simp [go_sem]; rfl)).mono ?_; rintro e w4 ⟨rfl, rfl⟩)))

  all_goals
    go_wp2
    go_ret
    refine ⟨rfl, ?_, ?_⟩
    · repeat (with_reducible first | refine below_alloc _ ?_ | refine Below.drew ?_ | exact Below.refl _ _)
    · skip
      simp [World.drew]

end Go.Proofs.Ytbjjkfmdkmbcfaa
