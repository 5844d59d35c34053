import Derived.Test.YtleebikdnjbieaaUw
namespace Go.Proofs.Ytleebikdnjbieaa
open Go.RowKit
open PlRd

attribute [local go_sem ↓] Go.wp_at_zero Go.wp_at_succ

set_option maxHeartbeats 4000000 in
set_option maxRecDepth 100000 in
theorem distance2_any (ax ay bx by' : Nat) (AX AY BX BY : Int) (w : World) (hax : Co ax AX) (hay : Co ay AY) (hbx : Co bx BX) (hby : Co by' BY) :
    Calls Try.prog 33 #[.agg #[.float .f64 ax, .float .f64 ay], .agg #[.float .f64 bx, .float .f64 by']] w fun e w' => ∃ v' ds, e = .returned v' ∧ NumS w' 0 v' ds ∧
      IsL ds (sumAll (sumAll (prodParts (sumAll [BX, -AX]) (sumAll [BX, -AX])) ++ sumAll (prodParts (sumAll [BY, -AY]) (sumAll [BY, -AY])))) ∧ Below w.heap.size w w' := by
  have pa : Nm (sumAll (prodParts (sumAll [BX, -AX]) (sumAll [BX, -AX]))) 874 3 1283 := ((nm_two hbx hax.neg).prod (nm_two hbx hax.neg) (by decide) (by decide)).sum
  have pb : Nm (sumAll (prodParts (sumAll [BY, -AY]) (sumAll [BY, -AY]))) 874 3 1283 := ((nm_two hby hay.neg).prod (nm_two hby hay.neg) (by decide) (by decide)).sum
  have HP : Hid (Pa (sumAll (prodParts (sumAll [BX, -AX]) (sumAll [BX, -AX]))) 874 3 1283 ∧ Pa (sumAll (prodParts (sumAll [BY, -AY]) (sumAll [BY, -AY]))) 874 3 1283) := ⟨pa.toPa, pb.toPa⟩
  clear pa pb
  go_enter Try.func33, Try.ntmps33
  go_wp2
  generalize hW : World.alloc (World.alloc w _) _ = W
  have hWs : W.heap.size = w.heap.size + 2 := by subst hW; simp
  have hWb : Below w.heap.size w W := by
    subst hW
    exact (((Below.refl _ w).alloc (Nat.le_refl _) _).alloc (by simp) _)
  have KS : ∀ w', Below W.heap.size W w' → (w'.cell? ⟨w.heap.size, 0, none⟩ = some (.float .f64 ax) ∧ w'.cell? ⟨w.heap.size, 1, none⟩ = some (.float .f64 ay) ∧ w'.cell? ⟨w.heap.size + 1, 0, none⟩ = some (.float .f64 bx) ∧ w'.cell? ⟨w.heap.size + 1, 1, none⟩ = some (.float .f64 by')) ∧ Below W.heap.size W w' := by
    intro w' hb
    obtain ⟨hc, _⟩ := bcell hb
    refine ⟨⟨?_, ?_, ?_, ?_⟩, hb⟩
    all_goals rw [hc _ _ (by omega)]; subst hW; simp [go_sem]
  clear hW hWs
  go_region_held3 (fun w' => (w'.cell? ⟨w.heap.size, 0, none⟩ = some (.float .f64 ax) ∧ w'.cell? ⟨w.heap.size, 1, none⟩ = some (.float .f64 ay) ∧ w'.cell? ⟨w.heap.size + 1, 0, none⟩ = some (.float .f64 bx) ∧ w'.cell? ⟨w.heap.size + 1, 1, none⟩ = some (.float .f64 by')) ∧ Below W.heap.size W w') (first | exact KS _ (Below.refl _ _).drew | (go_split_ands; first | exact KS _ (below_step hb5 (by assumption)) | exact KS _ (below_step hb4 (by assumption)) | exact KS _ (below_step hb3 (by assumption)) | exact KS _ (below_step hb2 (by assumption)) | exact KS _ (below_step hb1 (by assumption)) | exact KS _ (Below.alloc (by assumption) (Below.size (by assumption)) _) | exact KS _ (Below.drew (by assumption)) | exact KS _ (by assumption))) (first | (go_at_call 45; refine (sum2 _ bx (ax ^^^ 9223372036854775808) BX (-AX) _ ?_ ?_ ?_ hbx hax.neg).mono ?_; (focus first | (simp [go_sem]; done)); (focus first | (simp [go_sem]; done)); (focus first | (simp; done) | (simp; omega)); rintro e w1 ⟨v1, cs1, rfl, hn1, hi1, hb1⟩) | (go_at_call 47; refine (square_nm v1 0 _ _ 974 1 1176 _ ?_ hi1 (nm_two hbx hax.neg) (by decide) (by decide) (by decide) (by decide)).mono ?_; (focus first | exact hn1.base (Nat.zero_le _) | exact (hn1.alloc _).base (Nat.zero_le _)); rintro e w2 ⟨v2, cs2, rfl, hn2, hi2, hb2⟩) | (go_at_call 45; refine (sum2 _ by' (ay ^^^ 9223372036854775808) BY (-AY) _ ?_ ?_ ?_ hby hay.neg).mono ?_; (focus first | (simp [go_sem]; done) | (rw [(bcell hb2).1 _ _ (by simp <;> omega)]; simp [go_sem]; done) | (rw [(bcell hb2).1 _ _ (by have := hb1.size; simp at this ⊢; omega), (bcell hb1).1 _ _ (by simp <;> omega)]; simp [go_sem]; done)); (focus first | (simp [go_sem]; done) | (rw [(bcell hb2).1 _ _ (by simp <;> omega)]; simp [go_sem]; done) | (rw [(bcell hb2).1 _ _ (by have := hb1.size; simp at this ⊢; omega), (bcell hb1).1 _ _ (by simp <;> omega)]; simp [go_sem]; done)); (focus first | (simp; done) | (simp; omega) | (have := hb2.size; simp at this ⊢; omega) | (have := hb1.size; have := hb2.size; simp at *; omega)); rintro e w3 ⟨v3, cs3, rfl, hn3, hi3, hb3⟩) | (go_at_call 47; refine (square_nm v3 0 _ _ 974 1 1176 _ (hn3.base (Nat.zero_le _)) hi3 (nm_two hby hay.neg) (by decide) (by decide) (by decide) (by decide)).mono ?_; rintro e w4 ⟨v4, cs4, rfl, hn4, hi4, hb4⟩; have hk2 : NumS w3 0 v2 cs2 := (by first | exact (hn2.kept hb3).base (Nat.zero_le _) | exact (kept_alloc hn2 hb3).base (Nat.zero_le _)); have hk4 := hk2.kept hb4; have hn4' := hn4.base (Nat.zero_le _); obtain ⟨g4, c4, hv4, _, _, _⟩ := hn4.cases; subst hv4; obtain ⟨g2, c2, hv2, _, _, _⟩ := hk4.cases; subst hv2) | (go_at_call 34; refine (total2a _ _ _ _ _ _ 874 3 1283 _ 70 hk4 hn4' hi2 hi4 HP.out.1 HP.out.2 (by decide) (by decide)).mono ?_; rintro e w5 ⟨v5, cs5, rfl, hn5, hi5, hb5⟩))
  all_goals
    go_wp2
    go_ret
    have hbW : Below W.heap.size W w5 := by go_split_ands; assumption
    exact ⟨v5, cs5, rfl, hn5, hi5, hWb.trans (hbW.mono hWb.size)⟩

end Go.Proofs.Ytleebikdnjbieaa
