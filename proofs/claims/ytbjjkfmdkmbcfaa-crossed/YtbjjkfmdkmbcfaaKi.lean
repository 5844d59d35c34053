import Derived.Test.YtbjjkfmdkmbcfaaKh
namespace Go.Proofs.Ytbjjkfmdkmbcfaa
open Go.RowKit

attribute [local go_sem ↓] Go.wp_at_zero Go.wp_at_succ

set_option maxHeartbeats 16000000 in
set_option maxRecDepth 100000 in
theorem crossed_walk (ax ay bx by' cx cy dx dy : Nat) (n s p q r t E4 Eh X1 X2 X3 X4 : Int) (w : World)
    (m1 : MRt ax ay bx by' cx cy dx dy n E4) (m2 : MRt cx cy dx dy ax ay bx by' n E4) (m3 : MRt bx by' ax ay cx cy dx dy n E4) (m4 : MRt ax ay bx by' ax ay bx by' s Eh)
    (o1 : ORt ax ay bx by' cx cy p X1) (o2 : ORt ax ay bx by' dx dy q X2) (o3 : ORt cx cy dx dy ax ay r X3) (o4 : ORt cx cy dx dy bx by' t X4)
    (hs : (Eh = 0 ∧ s = 1) ∨ (Eh = 1 ∧ E4 = 1))
    (hE : (E4 = 1 ∧ n = 0) ∨ (E4 = 0 ∧ n = 2 ∧ p * q = -1 ∧ r * t = -1) ∨ (E4 = 0 ∧ n ≠ 2 ∧ 0 ≤ n ∧ n ≤ 2 ∧ p * q = -1 ∧ ¬ r * t = -1) ∨ (E4 = 0 ∧ n ≠ 2 ∧ 0 ≤ n ∧ n ≤ 2 ∧ ¬ p * q = -1))
    (hpq : -1 ≤ p * q ∧ p * q ≤ 1) (hrt : -1 ≤ r * t ∧ r * t ≤ 1) :
    Calls Try.prog 4 #[.agg #[.int .u64 ax, .int .u64 ay], .agg #[.int .u64 bx, .int .u64 by'], .agg #[.int .u64 cx, .int .u64 cy], .agg #[.int .u64 dx, .int .u64 dy]] w fun e w' => e = .returned (.bool true) ∧ Below w.heap.size w w' := by
  have wpq : IntKind.i64.wrap (p * q) = p * q := by
    obtain ⟨h1, h2⟩ := hpq
    generalize p * q = z at *
    rw [IntKind.wrap_i64]; omega
  have wrt : IntKind.i64.wrap (r * t) = r * t := by
    obtain ⟨h1, h2⟩ := hrt
    generalize r * t = z at *
    rw [IntKind.wrap_i64]; omega
  clear hpq hrt
  rcases hE with ⟨rfl, rfl⟩ | ⟨rfl, rfl, hx, hy⟩ | ⟨rfl, hn, hn0, hn2, hx, hy⟩ | ⟨rfl, hn, hn0, hn2, hx⟩ <;> rcases hs with ⟨rfl, rfl⟩ | ⟨rfl, hz⟩
  all_goals first | (exfalso; omega) | skip
  all_goals
    (try have hnb : (n == 2) = false := beq_eq_false_iff_ne.2 hn)
    (try have hyb : (r * t == -1) = false := beq_eq_false_iff_ne.2 hy)
    (try have hxb : (p * q == -1) = false := beq_eq_false_iff_ne.2 hx)
    go_enter Try.func4, Try.ntmps4
    go_upto_region 1 with fail
    generalize hWd : World.alloc (World.alloc (World.alloc (World.alloc w _) _) _) _ = W
    have hWs : W.heap.size = w.heap.size + 4 := by subst hWd; simp
    have hw : Below w.heap.size w W := by
      subst hWd
      exact (((((Below.refl _ w).alloc (by simp <;> omega) _).alloc (by simp <;> omega) _).alloc (by simp <;> omega) _).alloc (by simp <;> omega) _)
    have KS : ∀ w', Below W.heap.size W w' → (w'.cell? ⟨w.heap.size, 0, none⟩ = some (.int .u64 ax) ∧ w'.cell? ⟨w.heap.size, 1, none⟩ = some (.int .u64 ay)) ∧ (w'.cell? ⟨w.heap.size + 1, 0, none⟩ = some (.int .u64 bx) ∧ w'.cell? ⟨w.heap.size + 1, 1, none⟩ = some (.int .u64 by')) ∧ (w'.cell? ⟨w.heap.size + 1 + 1, 0, none⟩ = some (.int .u64 cx) ∧ w'.cell? ⟨w.heap.size + 1 + 1, 1, none⟩ = some (.int .u64 cy)) ∧ (w'.cell? ⟨w.heap.size + 1 + 1 + 1, 0, none⟩ = some (.int .u64 dx) ∧ w'.cell? ⟨w.heap.size + 1 + 1 + 1, 1, none⟩ = some (.int .u64 dy)) := by
      intro w' hb
      obtain ⟨hc, _⟩ := bcell hb
      refine ⟨⟨?_, ?_⟩, ⟨?_, ?_⟩, ⟨?_, ?_⟩, ⟨?_, ?_⟩⟩
      all_goals (rw [hc _ _ (by omega)]; subst hWd; simp [go_sem])
    clear hWd hWs
    have hS := KS W (Below.refl _ _)
    have hW : Below W.heap.size W W := Below.refl _ _
    go_wp2_with (first | (go_at_call 9; go_must (refine (known_any _).mono ?_; rintro e wk ⟨rfl, hb⟩; have hW := below_step hb hW; have hS := KS _ hW)) | (go_at_call 10; go_must (refine (ORt.use (by assumption) _).mono ?_; rintro e wk ⟨hb, rfl⟩; have hW := below_step hb hW; have hS := KS _ hW)) | (go_at_call 12; go_must (refine (MRt.use (by assumption) _).mono ?_; rintro e wk ⟨hb, rfl⟩; have hW := below_step hb hW; have hS := KS _ hW)))
    all_goals first
      | (exfalso; omega)
      | (go_ret; exact ⟨ret_bool (by first | rfl | (simp [hn]; done)), hw.trans (hW.mono hw.size)⟩)

theorem sgn_prod (x y : Int) (hx : -1 ≤ x ∧ x ≤ 1) (hy : -1 ≤ y ∧ y ≤ 1) : -1 ≤ x * y ∧ x * y ≤ 1 := by
  obtain ⟨a, b⟩ := hx
  have : x = -1 ∨ x = 0 ∨ x = 1 := by omega
  rcases this with rfl | rfl | rfl <;> omega

theorem ok_seg {a b c d : Nat × Nat} (h : okPts [a, b, c, d] = true) : okPts [a, b, a, b] = true ∧ okPts [a, b, c] = true ∧ okPts [a, b, d] = true ∧ okPts [c, d, a] = true ∧ okPts [c, d, b] = true := by
  unfold okPts at *
  simp only [List.all_cons, List.all_nil, Bool.and_eq_true, Bool.and_true] at *
  obtain ⟨h1, h2, h3, h4⟩ := h
  exact ⟨⟨h1, h2, h1, h2⟩, ⟨h1, h2, h3⟩, ⟨h1, h2, h4⟩, ⟨h3, h4, h1⟩, ⟨h3, h4, h2⟩⟩

theorem oS_small (a b c : Nat × Nat) : -1 ≤ oS a b c ∧ oS a b c ≤ 1 := by
  unfold oS
  split
  · exact sgn_small _
  · omega

theorem crossed_any (ax ay bx by' cx cy dx dy : Nat) (w : World) (h : L64 [(ax, ay), (bx, by'), (cx, cy), (dx, dy)]) :
    Calls Try.prog 4 #[.agg #[.int .u64 ax, .int .u64 ay], .agg #[.int .u64 bx, .int .u64 by'], .agg #[.int .u64 cx, .int .u64 cy], .agg #[.int .u64 dx, .int .u64 dy]] w fun e w' => e = .returned (.bool true) ∧ Below w.heap.size w w' := by
  have ha := h (ax, ay) (by simp)
  have hb := h (bx, by') (by simp)
  have hc := h (cx, cy) (by simp)
  have hd := h (dx, dy) (by simp)
  have l3 : ∀ a b c : Nat × Nat, (a.1 < 2 ^ 64 ∧ a.2 < 2 ^ 64) → (b.1 < 2 ^ 64 ∧ b.2 < 2 ^ 64) → (c.1 < 2 ^ 64 ∧ c.2 < 2 ^ 64) → L64 [a, b, c] := fun a b c h1 h2 h3 p hp => by
    simp only [List.mem_cons, List.not_mem_nil, or_false] at hp
    rcases hp with rfl | rfl | rfl <;> assumption
  have l4 : ∀ a b c d : Nat × Nat, (a.1 < 2 ^ 64 ∧ a.2 < 2 ^ 64) → (b.1 < 2 ^ 64 ∧ b.2 < 2 ^ 64) → (c.1 < 2 ^ 64 ∧ c.2 < 2 ^ 64) → (d.1 < 2 ^ 64 ∧ d.2 < 2 ^ 64) → L64 [a, b, c, d] := fun a b c d h1 h2 h3 h4 p hp => by
    simp only [List.mem_cons, List.not_mem_nil, or_false] at hp
    rcases hp with rfl | rfl | rfl | rfl <;> assumption
  have m1 := meet_all (ax, ay) (bx, by') (cx, cy) (dx, dy) (l4 _ _ _ _ ha hb hc hd)
  have m2 := meet_all (cx, cy) (dx, dy) (ax, ay) (bx, by') (l4 _ _ _ _ hc hd ha hb)
  have m3 := meet_all (bx, by') (ax, ay) (cx, cy) (dx, dy) (l4 _ _ _ _ hb ha hc hd)
  have m4 := meet_all (ax, ay) (bx, by') (ax, ay) (bx, by') (l4 _ _ _ _ ha hb ha hb)
  have o1 := orient_all (ax, ay) (bx, by') (cx, cy) (l3 _ _ _ ha hb hc)
  have o2 := orient_all (ax, ay) (bx, by') (dx, dy) (l3 _ _ _ ha hb hd)
  have o3 := orient_all (cx, cy) (dx, dy) (ax, ay) (l3 _ _ _ hc hd ha)
  have o4 := orient_all (cx, cy) (dx, dy) (bx, by') (l3 _ _ _ hc hd hb)
  have k2 : okPts [(cx, cy), (dx, dy), (ax, ay), (bx, by')] = okPts [(ax, ay), (bx, by'), (cx, cy), (dx, dy)] := by
    unfold okPts
    simp only [List.all_cons, List.all_nil, Bool.and_true]
    ac_rfl
  have e2 : mS (cx, cy) (dx, dy) (ax, ay) (bx, by') = mS (ax, ay) (bx, by') (cx, cy) (dx, dy) := by unfold mS mV; rw [k2, meet_swap]
  have e3 : mS (bx, by') (ax, ay) (cx, cy) (dx, dy) = mS (ax, ay) (bx, by') (cx, cy) (dx, dy) := by unfold mS mV; rw [ok_swap, meet_back]
  have g2 : oE [(cx, cy), (dx, dy), (ax, ay), (bx, by')] = oE [(ax, ay), (bx, by'), (cx, cy), (dx, dy)] := by unfold oE; rw [k2]
  have g3 : oE [(bx, by'), (ax, ay), (cx, cy), (dx, dy)] = oE [(ax, ay), (bx, by'), (cx, cy), (dx, dy)] := by unfold oE; rw [ok_swap]
  rw [e2, g2] at m2
  rw [e3, g3] at m3
  refine crossed_walk ax ay bx by' cx cy dx dy _ _ _ _ _ _ _ _ _ _ _ _ w m1 m2 m3 m4 o1 o2 o3 o4 ?_ ?_ (sgn_prod _ _ (oS_small ..) (oS_small ..)) (sgn_prod _ _ (oS_small ..) (oS_small ..))
  · cases hk : okPts [(ax, ay), (bx, by'), (ax, ay), (bx, by')]
    · refine .inr ⟨by unfold oE; rw [hk]; rfl, ?_⟩
      cases h4 : okPts [(ax, ay), (bx, by'), (cx, cy), (dx, dy)]
      · unfold oE; rw [h4]; rfl
      · rw [(ok_seg h4).1] at hk; cases hk
    · refine .inl ⟨by unfold oE; rw [hk]; rfl, ?_⟩
      unfold mS mV
      rw [if_pos hk, meet_self]
  · cases h4 : okPts [(ax, ay), (bx, by'), (cx, cy), (dx, dy)]
    · exact .inl ⟨by unfold oE; rw [h4]; rfl, by unfold mS; rw [h4]; rfl⟩
    · right
      obtain ⟨_, q1, q2, q3, q4⟩ := ok_seg h4
      have hE : oE [(ax, ay), (bx, by'), (cx, cy), (dx, dy)] = 0 := by unfold oE; rw [h4]; rfl
      have hm : mS (ax, ay) (bx, by') (cx, cy) (dx, dy) = meetI (crd ax) (crd ay) (crd bx) (crd by') (crd cx) (crd cy) (crd dx) (crd dy) := by unfold mS mV; rw [if_pos h4]
      rw [hE, hm, oS_trn q1, oS_trn q2, oS_trn q3, oS_trn q4]
      obtain ⟨t1, t2, t3⟩ := meet_two (crd ax) (crd ay) (crd bx) (crd by') (crd cx) (crd cy) (crd dx) (crd dy)
      generalize meetI (crd ax) (crd ay) (crd bx) (crd by') (crd cx) (crd cy) (crd dx) (crd dy) = M at *
      simp only
      by_cases hM : M = 2
      · exact .inl ⟨trivial, hM, (t1.1 hM).1, (t1.1 hM).2⟩
      · right
        by_cases hx : trn (crd ax) (crd ay) (crd bx) (crd by') (crd cx) (crd cy) * trn (crd ax) (crd ay) (crd bx) (crd by') (crd dx) (crd dy) = -1
        · exact .inl ⟨trivial, hM, t2, t3, hx, fun hy => hM (t1.2 ⟨hx, hy⟩)⟩
        · exact .inr ⟨trivial, hM, t2, t3, hx⟩

end Go.Proofs.Ytbjjkfmdkmbcfaa
