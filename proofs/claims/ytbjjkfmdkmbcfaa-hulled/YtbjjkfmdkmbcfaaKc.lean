import Derived.Test.YtbjjkfmdkmbcfaaKb
namespace Go.Proofs.Ytbjjkfmdkmbcfaa
open Go.Shelf Go.RowKit Go.Lib Go.Sort
open PlRd (sgn)
open HL (cr lx popW chainR hullL)

attribute [local go_sem ↓] Go.wp_at_zero Go.wp_at_succ

theorem sl_kps (w : World) (t : TypeId) : SlAt (w.alloc (.cells #[.int .u64 0, .int .u64 0, .int .u64 4616189618054758400, .int .u64 0, .int .u64 4607182418800017408, .int .u64 0, .int .u64 4607182418800017408, .int .u64 4607182418800017408] t)) (.slice (some ⟨w.heap.size, 0, none⟩) 4 4) 4 kps := by
  refine .inr ⟨_, _, rfl, by simp, fun t ht => ?_⟩
  match t, ht with
  | 0, _ => exact ⟨by simp [go_sem, kps], by simp [go_sem, kps]⟩
  | 1, _ => exact ⟨by simp [go_sem, kps], by simp [go_sem, kps]⟩
  | 2, _ => exact ⟨by simp [go_sem, kps], by simp [go_sem, kps]⟩
  | 3, _ => exact ⟨by simp [go_sem, kps], by simp [go_sem, kps]⟩

theorem hull_known (V : World) (v : Value) (hv : SlAt V v 4 kps) : Calls Try.prog 22 #[v] V fun e w' => ∃ g c, e = .returned (.tuple #[.slice (some ⟨g, 0, none⟩) 3 c, .int .i64 0]) ∧ (w'.cell? ⟨g, 0, none⟩ = some (.int .i64 0) ∧ w'.cell? ⟨g, 1, none⟩ = some (.int .i64 1) ∧ w'.cell? ⟨g, 2, none⟩ = some (.int .i64 3)) ∧ Below V.heap.size V w' := by
  refine (hullE_ok v 4 kps V hv rfl (by decide) kps_64 kps_ok).mono ?_
  rintro e w' ⟨o, u, ho, rfl, hC, hb⟩
  have e1 : o = [0, 2, 3, 1] := ho.unique kps_srt
  subst e1
  rw [kps_hull] at hC
  obtain ⟨g, c, rfl, _, _, _, hc, _⟩ := hC.full (by simp)
  exact ⟨g, c, rfl, ⟨hc 0 (by decide), hc 1 (by decide), hc 2 (by decide)⟩, hb⟩

theorem hull_kn (V W : World) (k : Nat) (t : TypeId) (hk : k = W.heap.size) (hV : V.heap = (W.alloc (.cells #[.int .u64 0, .int .u64 0, .int .u64 4616189618054758400, .int .u64 0, .int .u64 4607182418800017408, .int .u64 0, .int .u64 4607182418800017408, .int .u64 4607182418800017408] t)).heap) : Calls Try.prog 22 #[.slice (some ⟨k, 0, none⟩) 4 4] V fun e w' => ∃ g c, e = .returned (.tuple #[.slice (some ⟨g, 0, none⟩) 3 c, .int .i64 0]) ∧ (w'.cell? ⟨g, 0, none⟩ = some (.int .i64 0) ∧ w'.cell? ⟨g, 1, none⟩ = some (.int .i64 1) ∧ w'.cell? ⟨g, 2, none⟩ = some (.int .i64 3)) ∧ Below V.heap.size V w' := by
  subst hk
  refine hull_known V _ ?_
  have h := sl_kps W t
  rcases h with ⟨h1, _⟩ | ⟨g, c, h1, h2, h3⟩
  · cases h1
  · refine .inr ⟨g, c, h1, by rw [hV]; exact h2, fun t ht => ?_⟩
    have h4 := h3 t ht
    unfold World.cell? at h4 ⊢
    rw [hV]
    exact h4

inductive Kn : Int → Nat → Prop
  | four : Kn 2 4616189618054758400
  | one : Kn 0 4607182418800017408
  | two : Kn 1 4611686018427387904

theorem bits_kn (p : Int) (b : Nat) (h : Kn p b) (V : World) : Calls Try.prog 20 #[.int .i64 1, .int .i64 p] V fun e w' => w' = V ∧ e = .returned (.int .u64 (b : Int)) := by
  cases h
  · exact bits_one 2 4616189618054758400 V (by decide) (by decide) (by decide)
  · exact bits_one 0 4607182418800017408 V (by decide) (by decide) (by decide)
  · exact bits_one 1 4611686018427387904 V (by decide) (by decide) (by decide)

theorem kc4 : ((4616189618054758400 : Nat) : Int) = 4616189618054758400 := rfl
theorem kc1 : ((4607182418800017408 : Nat) : Int) = 4607182418800017408 := rfl
theorem kc2 : ((4611686018427387904 : Nat) : Int) = 4611686018427387904 := rfl

inductive Ko : Int → Int → Int → Prop
  | left : Ko 4607182418800017408 4607182418800017408 1
  | on : Ko 4611686018427387904 0 0

theorem orient_kn (cx cy : Int) (r : Int) (h : Ko cx cy r) (V : World) : Calls Try.prog 10 #[.agg #[.int .u64 0, .int .u64 0], .agg #[.int .u64 4616189618054758400, .int .u64 0], .agg #[.int .u64 cx, .int .u64 cy]] V fun e w' => Below V.heap.size V w' ∧ e = .returned (.tuple #[.int .i64 r, .int .i64 0]) := by
  cases h
  · have h9 := orient_ok 0 0 4616189618054758400 0 4607182418800017408 4607182418800017408 V (by decide) k_turn1.1
    rw [k_turn1.2] at h9
    simpa only [kc4, kc1, kc2, Int.natCast_zero] using h9
  · have h9 := orient_ok 0 0 4616189618054758400 0 4611686018427387904 0 V (by decide) k_turn0.1
    rw [k_turn0.2] at h9
    simpa only [kc4, kc1, kc2, Int.natCast_zero] using h9

end Go.Proofs.Ytbjjkfmdkmbcfaa
