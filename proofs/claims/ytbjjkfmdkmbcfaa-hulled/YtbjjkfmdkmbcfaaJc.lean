import Derived.Test.YtbjjkfmdkmbcfaaJb
namespace Go.Proofs.Ytbjjkfmdkmbcfaa
open Go.RowKit
open PlRd

attribute [local go_sem ↓] Go.wp_at_zero Go.wp_at_succ

set_option maxHeartbeats 4000000 in
set_option maxRecDepth 100000 in
theorem insideE_ok (v : Value) (n : Nat) (ps : List (Nat × Nat)) (px py : Nat) (w : World) (hv : SlAt w v n ps) (hn : ps.length = n) (hnm : n ≤ 100) (h64 : ∀ p ∈ ps, p.1 < 2 ^ 64 ∧ p.2 < 2 ^ 64) (hok : okPts ps = true) (hp64 : ∀ p ∈ [(px, py)], p.1 < 2 ^ 64 ∧ p.2 < 2 ^ 64) (hpk : okPts [(px, py)] = true) :
    Calls Try.prog 23 #[v, .agg #[.int .u64 px, .int .u64 py]] w fun e w' => Below w.heap.size w w' ∧ e = .returned (.tuple #[.int .i64 (insV (crdX ps) n (crd px, crd py)), .int .i64 0]) := by
  have hvk : ∀ o : Obj, SlAt (w.alloc o) v n ps := fun o => hv.kept ((Below.refl _ w).alloc (Nat.le_refl _) o)
  obtain ⟨o, c, rfl⟩ := hv.form
  have hm : mayB px = true ∧ mayB py = true := by simpa [okPts] using hpk
  have HI : Hid (∀ (V : World) (G : Nat), SpRow V G ps → Calls Try.prog 35 #[.slice (some ⟨G, 0, none⟩) n n, .agg #[.float .f64 px, .float .f64 py]] V fun e w' => e = .returned (.int .i64 (insV (crdX ps) n (crd px, crd py))) ∧ Below V.heap.size V w') := fun V G hr =>
    inside_cr G n n (fun i => ps.getD i (0, 0)) (crdX ps) px py (crd px) (crd py) V (by omega) hr.1 (fun i hi => ⟨hr.2 i (by omega), cr_mayB (ok_at hok i (by omega)).1, cr_mayB (ok_at hok i (by omega)).2⟩) (cr_mayB hm.1) (cr_mayB hm.2)
  clear hv hm
  go_enter Try.func23, Try.ntmps23
  go_wp2_with (first | (go_at_call 24; have g1 := hb1; go_must (refine (spots_yes _ 1 [(px, py)] _ (sl_one (by simp)) rfl (by omega) hp64 hpk).mono ?_; rintro e w2 ⟨hb2, G2, rfl, hrow2⟩; have hbb : Below w1.heap.size w1 w2 := below_step hb2 ((Below.refl _ _).alloc (Nat.le_refl _) _); have hc2 := hrow2.2 0 (Nat.zero_lt_one); have hr1 := hrow.kept hbb; simp at hc2)) | (go_at_call 24; go_must (refine (spots_yes _ n ps _ (hvk _) hn (by omega) h64 hok).mono ?_; rintro e w1 ⟨hb1, G, rfl, hrow⟩; have hbx := ptbox hb1)) | (go_at_call 35; go_must (refine (HI.out _ _ hr1).mono ?_; rintro e w3 ⟨rfl, hb3⟩)))
  go_ret2
  have h1 := below_step hb1 ((Below.refl _ w).alloc (Nat.le_refl _) _)
  exact ⟨below_step hb3 (below_step hb2 (h1.alloc h1.size _)), rfl⟩

end Go.Proofs.Ytbjjkfmdkmbcfaa
