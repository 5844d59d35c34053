import Derived.Test.YtbjjkfmdkmbcfaaKg
namespace Go.Proofs.Ytbjjkfmdkmbcfaa
open Go.RowKit
open PlRd (sgn)

attribute [local go_sem ↓] Go.wp_at_zero Go.wp_at_succ

/-- Which of n things the raw number c speaks of. -/
def pickI (c n : Int) : Int := (if c < 0 then -(c + 1) else c) % n

theorem pickI_range (c n : Int) (hn : 0 < n) : 0 ≤ pickI c n ∧ pickI c n < n := ⟨Int.emod_nonneg _ (by omega), Int.emod_lt_of_pos _ hn⟩

def I64 (c : Int) : Prop := -9223372036854775808 ≤ c ∧ c ≤ 9223372036854775807

set_option maxHeartbeats 2000000 in
set_option maxRecDepth 100000 in
theorem pick_any (c n : Int) (w : World) (hc : I64 c) (hn : 0 < n) (hn2 : n < 1000000) : Calls Try.prog 18 #[.int .i64 c, .int .i64 n] w fun e w' => e = .returned (.int .i64 (pickI c n)) ∧ w' = w := by
  obtain ⟨h1, h2⟩ := hc
  obtain ⟨p1, p2⟩ := pickI_range c n hn
  have hn0 : ¬ n = 0 := by omega
  have hnm : ¬ n = -1 := by omega
  by_cases hneg : c < 0
  · have e1 : (-(c + 1)).tmod n = pickI c n := by
      unfold pickI
      rw [if_pos hneg, Int.tmod_eq_emod_of_nonneg (by omega)]
    have w1 : IntKind.i64.wrap (c + 1) = c + 1 := by rw [IntKind.wrap_i64]; omega
    have w2 : IntKind.i64.wrap (-(c + 1)) = -(c + 1) := by rw [IntKind.wrap_i64]; omega
    have w3 : IntKind.i64.wrap (pickI c n) = pickI c n := by rw [IntKind.wrap_i64]; omega
    have w4 : IntKind.i64.wrap ((-(c + 1)).tmod n) = pickI c n := by rw [e1, w3]
    generalize pickI c n = r at *
    go_enter Try.func18, Try.ntmps18
    go_wp2
    go_ret
    exact ⟨rfl, rfl⟩
  · have e1 : c.tmod n = pickI c n := by
      unfold pickI
      rw [if_neg hneg, Int.tmod_eq_emod_of_nonneg (by omega)]
    have w3 : IntKind.i64.wrap (pickI c n) = pickI c n := by rw [IntKind.wrap_i64]; omega
    have w4 : IntKind.i64.wrap (c.tmod n) = pickI c n := by rw [e1, w3]
    generalize pickI c n = r at *
    go_enter Try.func18, Try.ntmps18
    go_wp2
    go_ret
    exact ⟨rfl, rfl⟩

def bentI (c : Int) : Int := pickI c 8001 - 4000
def scaleI (c : Int) : Int := pickI c 188 - 100
theorem bentI_range (c : Int) : -4000 ≤ bentI c ∧ bentI c ≤ 4000 := by
  have := pickI_range c 8001 (by omega)
  unfold bentI
  omega
theorem scaleI_range (c : Int) : -100 ≤ scaleI c ∧ scaleI c ≤ 87 := by
  have := pickI_range c 188 (by omega)
  unfold scaleI
  omega

set_option maxHeartbeats 2000000 in
set_option maxRecDepth 100000 in
theorem bent_any (c : Int) (w : World) (hc : I64 c) : Calls Try.prog 19 #[.int .i64 c] w fun e w' => e = .returned (.int .i64 (bentI c)) ∧ w' = w := by
  have HP : Hid (∀ V, Calls Try.prog 18 #[.int .i64 c, .int .i64 8001] V fun e w' => e = .returned (.int .i64 (pickI c 8001)) ∧ w' = V) := fun V => pick_any c 8001 V hc (by omega) (by omega)
  have h1 := pickI_range c 8001 (by omega)
  unfold bentI
  have w1 : IntKind.i64.wrap (pickI c 8001 - 4000) = pickI c 8001 - 4000 := by rw [IntKind.wrap_i64]; omega
  generalize pickI c 8001 = r at *
  clear h1
  go_enter Try.func19, Try.ntmps19
  go_wp2_with (go_at_call 18; go_must (refine (HP.out _).mono ?_; rintro e w1 ⟨rfl, rfl⟩))
  go_ret
  exact ⟨rfl, rfl⟩

set_option maxHeartbeats 2000000 in
set_option maxRecDepth 100000 in
theorem scale_any (c : Int) (w : World) (hc : I64 c) : Calls Try.prog 13 #[.int .i64 c] w fun e w' => e = .returned (.int .i64 (scaleI c)) ∧ w' = w := by
  have HP : Hid (∀ V, Calls Try.prog 18 #[.int .i64 c, .int .i64 188] V fun e w' => e = .returned (.int .i64 (pickI c 188)) ∧ w' = V) := fun V => pick_any c 188 V hc (by omega) (by omega)
  have h1 := pickI_range c 188 (by omega)
  unfold scaleI
  have w1 : IntKind.i64.wrap (pickI c 188 - 100) = pickI c 188 - 100 := by rw [IntKind.wrap_i64]; omega
  generalize pickI c 188 = r at *
  clear h1
  go_enter Try.func13, Try.ntmps13
  go_wp2_with (go_at_call 18; go_must (refine (HP.out _).mono ?_; rintro e w1 ⟨rfl, rfl⟩))
  go_ret
  exact ⟨rfl, rfl⟩

set_option maxHeartbeats 2000000 in
set_option maxRecDepth 100000 in
theorem signk_any (c : Int) (w : World) : Calls Try.prog 16 #[.int .i64 c] w fun e w' => e = .returned (.int .i64 (sgn c)) ∧ w' = w := by
  by_cases h1 : 0 < c
  · rw [show sgn c = 1 by unfold sgn; rw [if_pos h1]]
    go_enter Try.func16, Try.ntmps16
    go_wp2
    go_ret
    exact ⟨rfl, rfl⟩
  · by_cases h2 : c < 0
    · rw [show sgn c = -1 by unfold sgn; rw [if_neg h1, if_pos h2]]
      go_enter Try.func16, Try.ntmps16
      go_wp2
      go_ret
      exact ⟨rfl, rfl⟩
    · have h3 : c = 0 := by omega
      subst h3
      go_enter Try.func16, Try.ntmps16
      go_wp2
      go_ret
      exact ⟨rfl, rfl⟩

structure BeR (c r : Int) : Prop where
  out : ∀ V, Calls Try.prog 19 #[.int .i64 c] V fun e w' => e = .returned (.int .i64 r) ∧ w' = V
theorem BeR.use {c r : Int} (h : BeR c r) (V : World) : Calls Try.prog 19 #[.int .i64 c] V fun e w' => e = .returned (.int .i64 r) ∧ w' = V := h.out V

set_option maxHeartbeats 4000000 in
set_option maxRecDepth 100000 in
theorem at_any (x y : Int) (w : World) (hx : I64 x) (hy : I64 y) : Calls Try.prog 15 #[.agg #[.int .i64 x, .int .i64 y]] w fun e w' => e = .returned (.agg #[.int .i64 (bentI x), .int .i64 (bentI y)]) ∧ Below w.heap.size w w' := by
  have b1 : BeR x (bentI x) := ⟨fun V => bent_any x V hx⟩
  have b2 : BeR y (bentI y) := ⟨fun V => bent_any y V hy⟩
  generalize bentI x = X at *
  generalize bentI y = Y at *
  clear hx hy
  go_enter Try.func15, Try.ntmps15
  go_upto_region 1 with fail
  generalize hWd : World.alloc (World.alloc w _) _ = W
  have hWs : W.heap.size = w.heap.size + 2 := by subst hWd; simp
  have hw : Below w.heap.size w W := by subst hWd; exact ((Below.refl _ w).alloc (Nat.le_refl _) _).alloc (by simp) _
  have KS : ∀ w' : World, (∀ b o, b < w.heap.size + 1 → w'.cell? ⟨b, o, none⟩ = W.cell? ⟨b, o, none⟩) → (w'.cell? ⟨w.heap.size, 0, none⟩ = some (.int .i64 x) ∧ w'.cell? ⟨w.heap.size, 1, none⟩ = some (.int .i64 y)) := by
    intro w' hc
    refine ⟨?_, ?_⟩
    all_goals (rw [hc _ _ (by omega)]; subst hWd; simp [go_sem])
  have hR : W.cell? ⟨w.heap.size + 1, 0, none⟩ = some (.int .i64 0) ∧ W.cell? ⟨w.heap.size + 1, 1, none⟩ = some (.int .i64 0) ∧ W.frozen? ⟨w.heap.size + 1, 0, none⟩ = false ∧ W.frozen? ⟨w.heap.size + 1, 1, none⟩ = false := by subst hWd; simp [go_sem]
  clear hWd hWs
  have hS := KS W (fun _ _ _ => rfl)
  go_region_held3 (fun w' : World => (w'.cell? ⟨w.heap.size, 0, none⟩ = some (.int .i64 x) ∧ w'.cell? ⟨w.heap.size, 1, none⟩ = some (.int .i64 y))) (first | exact KS _ (fun _ _ _ => rfl) | exact KS _ (fun b o h => (cell_store_other (by omega)).trans rfl)) (first | (go_at_call 19; go_must (refine (BeR.use (by assumption) _).mono ?_; rintro e w1 ⟨rfl, rfl⟩)))
  all_goals
    go_wp2
    refine bodyPost_ret (v := .agg #[.int .i64 X, .int .i64 Y]) (by simp [results, Try.results15, go_sem, hR.1, hR.2.1]) rfl ⟨rfl, ?_⟩
    exact ((hw.drew).setCell (by simp) _).setCell (by simp) _

end Go.Proofs.Ytbjjkfmdkmbcfaa
