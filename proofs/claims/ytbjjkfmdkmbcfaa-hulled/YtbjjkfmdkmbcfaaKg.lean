import Derived.Test.YtbjjkfmdkmbcfaaKf
namespace Go.Proofs.Ytbjjkfmdkmbcfaa
open Go.RowKit

attribute [local go_sem ↓] Go.wp_at_zero Go.wp_at_succ

set_option maxHeartbeats 16000000 in
set_option maxRecDepth 100000 in
theorem round_walk (ax ay bx by' cx cy dx dy : Nat) (n p E3 E4 : Int) (w : World)
    (h1 : ORt ax ay bx by' cx cy n E3) (h2 : ORt bx by' cx cy ax ay n E3) (h3 : ORt bx by' ax ay cx cy (-n) E3) (h4 : CRt ax ay bx by' cx cy dx dy p E4) (h5 : CRt bx by' cx cy ax ay dx dy p E4) (h6 : CRt bx by' ax ay cx cy dx dy (-p) E4)
    (hn : -1 ≤ n ∧ n ≤ 1) (hp : -1 ≤ p ∧ p ≤ 1) (hE : (E3 = 0 ∧ E4 = 0) ∨ (E3 = 0 ∧ E4 = 1) ∨ (E3 = 1 ∧ E4 = 1)) :
    Calls Try.prog 3 #[.agg #[.int .u64 ax, .int .u64 ay], .agg #[.int .u64 bx, .int .u64 by'], .agg #[.int .u64 cx, .int .u64 cy], .agg #[.int .u64 dx, .int .u64 dy]] w fun e w' => e = .returned (.bool true) ∧ Below w.heap.size w w' := by
  obtain ⟨n1, n2⟩ := hn
  obtain ⟨p1, p2⟩ := hp
  have wn : IntKind.i64.wrap n = n := by rw [IntKind.wrap_i64]; omega
  have wp : IntKind.i64.wrap p = p := by rw [IntKind.wrap_i64]; omega
  rcases hE with ⟨rfl, rfl⟩ | ⟨rfl, rfl⟩ | ⟨rfl, rfl⟩
  all_goals
    go_enter Try.func3, Try.ntmps3
    go_upto_region 1 with fail
    generalize hWd : World.alloc (World.alloc (World.alloc (World.alloc w _) _) _) _ = W
    have hWs : W.heap.size = w.heap.size + 4 := by subst hWd; simp
    have hw : Below w.heap.size w W := by
      subst hWd
      exact (((((Below.refl _ w).alloc (by simp <;> omega) _).alloc (by simp <;> omega) _).alloc (by simp <;> omega) _).alloc (by simp <;> omega) _)
    have KS : ∀ w', Below W.heap.size W w' → (w'.cell? ⟨w.heap.size, 0, none⟩ = some (.int .u64 ax) ∧ w'.cell? ⟨w.heap.size, 1, none⟩ = some (.int .u64 ay)) ∧ (w'.cell? ⟨w.heap.size + 1, 0, none⟩ = some (.int .u64 bx) ∧ w'.cell? ⟨w.heap.size + 1, 1, none⟩ = some (.int .u64 by')) ∧ (w'.cell? ⟨w.heap.size + 1 + 1, 0, none⟩ = some (.int .u64 cx) ∧ w'.cell? ⟨w.heap.size + 1 + 1, 1, none⟩ = some (.int .u64 cy)) ∧ (w'.cell? ⟨w.heap.size + 1 + 1 + 1, 0, none⟩ = some (.int .u64 dx) ∧ w'.cell? ⟨w.heap.size + 1 + 1 + 1, 1, none⟩ = some (.int .u64 dy)) := by
      intro w' hb
      obtain ⟨hc, _⟩ := bcell hb
      refine ⟨⟨?_, ?_⟩, ⟨?_, ?_⟩, ⟨?_, ?_⟩, ⟨?_, ?_⟩⟩
      all_goals (rw [hc _ _ (by omega)]; subst hWd; simp [go_sem])
    clear hWd hWs
    have hS := KS W (Below.refl _ _)
    have hW : Below W.heap.size W W := Below.refl _ _
    go_wp2_with (first | (go_at_call 9; go_must (refine (known_any _).mono ?_; rintro e wk ⟨rfl, hb⟩; have hW := below_step hb hW; have hS := KS _ hW)) | (go_at_call 10; go_must (refine (ORt.use (by assumption) _).mono ?_; rintro e wk ⟨hb, rfl⟩; have hW := below_step hb hW; have hS := KS _ hW)) | (go_at_call 11; go_must (refine (CRt.use (by assumption) _).mono ?_; rintro e wk ⟨hb, rfl⟩; have hW := below_step hb hW; have hS := KS _ hW)))
    go_ret
    exact ⟨rfl, hw.trans (hW.mono hw.size)⟩

theorem round_any (ax ay bx by' cx cy dx dy : Nat) (w : World) (h : L64 [(ax, ay), (bx, by'), (cx, cy), (dx, dy)]) :
    Calls Try.prog 3 #[.agg #[.int .u64 ax, .int .u64 ay], .agg #[.int .u64 bx, .int .u64 by'], .agg #[.int .u64 cx, .int .u64 cy], .agg #[.int .u64 dx, .int .u64 dy]] w fun e w' => e = .returned (.bool true) ∧ Below w.heap.size w w' := by
  have ha := h (ax, ay) (by simp)
  have hb := h (bx, by') (by simp)
  have hc := h (cx, cy) (by simp)
  have hd := h (dx, dy) (by simp)
  have l3 : ∀ a b c : Nat × Nat, (a.1 < 2 ^ 64 ∧ a.2 < 2 ^ 64) → (b.1 < 2 ^ 64 ∧ b.2 < 2 ^ 64) → (c.1 < 2 ^ 64 ∧ c.2 < 2 ^ 64) → L64 [a, b, c] := fun a b c h1 h2 h3 p hp => by
    simp only [List.mem_cons, List.not_mem_nil, or_false] at hp
    rcases hp with rfl | rfl | rfl <;> assumption
  have l4 : ∀ a b c d : Nat × Nat, (a.1 < 2 ^ 64 ∧ a.2 < 2 ^ 64) → (b.1 < 2 ^ 64 ∧ b.2 < 2 ^ 64) → (c.1 < 2 ^ 64 ∧ c.2 < 2 ^ 64) → (d.1 < 2 ^ 64 ∧ d.2 < 2 ^ 64) → L64 [a, b, c, d] := fun a b c d h1 h2 h3 h4 p hp => by
    simp only [List.mem_cons, List.not_mem_nil, or_false] at hp
    rcases hp with rfl | rfl | rfl | rfl <;> assumption
  have o1 := orient_all (ax, ay) (bx, by') (cx, cy) (l3 _ _ _ ha hb hc)
  have o2 := orient_all (bx, by') (cx, cy) (ax, ay) (l3 _ _ _ hb hc ha)
  have o3 := orient_all (bx, by') (ax, ay) (cx, cy) (l3 _ _ _ hb ha hc)
  have c1 := circle_all (ax, ay) (bx, by') (cx, cy) (dx, dy) (l4 _ _ _ _ ha hb hc hd)
  have c2 := circle_all (bx, by') (cx, cy) (ax, ay) (dx, dy) (l4 _ _ _ _ hb hc ha hd)
  have c3 := circle_all (bx, by') (ax, ay) (cx, cy) (dx, dy) (l4 _ _ _ _ hb ha hc hd)
  have e2 : oS (bx, by') (cx, cy) (ax, ay) = oS (ax, ay) (bx, by') (cx, cy) := by unfold oS; rw [ok_round, turnV_round]
  have e3 : oS (bx, by') (ax, ay) (cx, cy) = - oS (ax, ay) (bx, by') (cx, cy) := by
    unfold oS
    rw [ok_swap, turnV_swap, sgn_neg]
    split <;> simp
  have f2 : cS (bx, by') (cx, cy) (ax, ay) (dx, dy) = cS (ax, ay) (bx, by') (cx, cy) (dx, dy) := by unfold cS; rw [ok_round, cV_round]
  have f3 : cS (bx, by') (ax, ay) (cx, cy) (dx, dy) = - cS (ax, ay) (bx, by') (cx, cy) (dx, dy) := by
    unfold cS
    rw [ok_swap, cV_swap, sgn_neg]
    split <;> simp
  have g2 : oE [(bx, by'), (cx, cy), (ax, ay)] = oE [(ax, ay), (bx, by'), (cx, cy)] := by unfold oE; rw [ok_round]
  have g3 : oE [(bx, by'), (ax, ay), (cx, cy)] = oE [(ax, ay), (bx, by'), (cx, cy)] := by unfold oE; rw [ok_swap]
  have k2 : oE [(bx, by'), (cx, cy), (ax, ay), (dx, dy)] = oE [(ax, ay), (bx, by'), (cx, cy), (dx, dy)] := by unfold oE; rw [ok_round]
  have k3 : oE [(bx, by'), (ax, ay), (cx, cy), (dx, dy)] = oE [(ax, ay), (bx, by'), (cx, cy), (dx, dy)] := by unfold oE; rw [ok_swap]
  rw [e2, g2] at o2
  rw [e3, g3] at o3
  rw [f2, k2] at c2
  rw [f3, k3] at c3
  refine round_walk ax ay bx by' cx cy dx dy _ _ _ _ w o1 o2 o3 c1 c2 c3 ?_ ?_ ?_
  · unfold oS; split
    · exact sgn_small _
    · omega
  · unfold cS; split
    · exact sgn_small _
    · omega
  · unfold oE
    cases h4 : okPts [(ax, ay), (bx, by'), (cx, cy), (dx, dy)]
    · cases h3 : okPts [(ax, ay), (bx, by'), (cx, cy)] <;> simp
    · rw [ok_less _ _ _ _ h4]; simp

end Go.Proofs.Ytbjjkfmdkmbcfaa
