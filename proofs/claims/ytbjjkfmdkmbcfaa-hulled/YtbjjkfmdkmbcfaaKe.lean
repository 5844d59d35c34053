import Derived.Test.YtbjjkfmdkmbcfaaKc
import Derived.Deep.QuietTactic
import Derived.BigQuiet
namespace Go.Proofs.Ytbjjkfmdkmbcfaa
open Go.Shelf Go.RowKit Go.Lib Go.Sort

attribute [local go_sem ↓] Go.wp_at_zero Go.wp_at_succ

set_option maxHeartbeats 8000000 in
set_option maxRecDepth 100000 in
theorem known_any (w : World) : Calls Try.prog 9 #[] w fun e w' => e = .returned (.bool true) ∧ Below w.heap.size w w' := by
  go_enter Try.func9, Try.ntmps9
  go_upto_region 5 with (first | (go_at_call 20; go_must (refine (bits_kn _ _ (by constructor) _).mono ?_; rintro e w1 ⟨rfl, rfl⟩)) | (go_at_call 10; have gg := hb2; go_must (refine (orient_kn _ _ _ (by constructor) _).mono ?_; rintro e w3 ⟨hb3, rfl⟩)) | (go_at_call 10; go_must (refine (orient_kn _ _ _ (by constructor) _).mono ?_; rintro e w2 ⟨hb2, rfl⟩)))
  have hw : Below w1.heap.size w1 w2 := below_step hb2 ((((Below.refl _ w1).alloc (by simp) _).alloc (by simp) _))
  have KS : ∀ w', Below w2.heap.size w2 w' → (w'.cell? ⟨w1.heap.size, 0, none⟩ = some (.int .u64 4616189618054758400) ∧ w'.cell? ⟨w1.heap.size, 1, none⟩ = some (.int .u64 0) ∧ w'.cell? ⟨w1.heap.size + 1, 0, none⟩ = some (.int .u64 4607182418800017408) ∧ w'.cell? ⟨w1.heap.size + 1, 1, none⟩ = some (.int .u64 4607182418800017408)) := by
    intro w' hb
    have hb' := hb2.trans (hb.mono hb2.size)
    obtain ⟨hc, _⟩ := bcell hb'
    refine ⟨?_, ?_, ?_, ?_⟩
    all_goals (rw [hc _ _ (by simp <;> omega)]; simp [go_sem])
  clear hb2
  have hS0 := KS w2 (Below.refl _ _)
  go_region_held3 (fun w' : World => (w'.cell? ⟨w1.heap.size, 0, none⟩ = some (.int .u64 4616189618054758400) ∧ w'.cell? ⟨w1.heap.size, 1, none⟩ = some (.int .u64 0) ∧ w'.cell? ⟨w1.heap.size + 1, 0, none⟩ = some (.int .u64 4607182418800017408) ∧ w'.cell? ⟨w1.heap.size + 1, 1, none⟩ = some (.int .u64 4607182418800017408))) (exact KS _ (by repeat (with_reducible first | refine below_alloc _ ?_ | refine Below.drew ?_ | exact hW4 | exact hW3 | exact Below.refl _ _))) (first | (go_at_call 20; go_must (refine (bits_kn _ _ (by constructor) _).mono ?_; rintro e w1 ⟨rfl, rfl⟩)) | (go_at_call 10; go_must (refine (orient_kn _ _ _ (by constructor) _).mono ?_; rintro e w3 ⟨hb3, rfl⟩; have hW3 : Below w2.heap.size w2 w3 := below_step hb3 (by repeat (with_reducible first | refine below_alloc _ ?_ | refine Below.drew ?_ | exact Below.refl _ _)))))
  all_goals
    have hS3 := KS w3 hW3
    go_upto_region 5 with fail
    go_region_held3 (fun w' : World => (w'.cell? ⟨w1.heap.size, 0, none⟩ = some (.int .u64 4616189618054758400) ∧ w'.cell? ⟨w1.heap.size, 1, none⟩ = some (.int .u64 0) ∧ w'.cell? ⟨w1.heap.size + 1, 0, none⟩ = some (.int .u64 4607182418800017408) ∧ w'.cell? ⟨w1.heap.size + 1, 1, none⟩ = some (.int .u64 4607182418800017408))) (exact KS _ (by repeat (with_reducible first | refine below_alloc _ ?_ | refine Below.drew ?_ | exact hW4 | exact hW3 | exact Below.refl _ _))) (first | (go_at_call 20; go_must (refine (bits_kn _ _ (by constructor) _).mono ?_; rintro e w1 ⟨rfl, rfl⟩)) | (go_at_call 22; go_must (refine (hull_kn _ w3 _ 24 (by rfl) (by rfl)).mono ?_; rintro e w4 ⟨g, c, rfl, hcs, hb4⟩; have hW4 : Below w2.heap.size w2 w4 := below_step hb4 (by repeat (with_reducible first | refine below_alloc _ ?_ | refine Below.drew ?_ | exact hW3)))))
    all_goals
      go_wp2_with fail
      go_ret
      exact ⟨rfl, hw.trans ((by repeat (with_reducible first | refine Below.drew ?_ | exact hW4) : Below w2.heap.size w2 _).mono hw.size)⟩

end Go.Proofs.Ytbjjkfmdkmbcfaa
