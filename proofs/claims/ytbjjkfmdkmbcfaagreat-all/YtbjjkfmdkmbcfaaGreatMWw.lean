import Derived.Test.YtbjjkfmdkmbcfaaGreatMVw
import Derived.Deep.RegionHeld3
import Derived.Deep.DeepCutAuto
import Derived.Deep.DrawnRows
namespace Go.Proofs.YtbjjkfmdkmbcfaaGreat
open Go.RowKit
open PlRd

attribute [local go_sem ↓] Go.wp_at_zero Go.wp_at_succ

theorem below_alloc {W w' : World} (o : Obj) (h : Below W.heap.size W w') : Below W.heap.size W (w'.alloc o) := h.alloc h.size o

theorem NumS.store2 {w : World} {base : Nat} {v : Value} {bs : List Nat} (h : NumS w base v bs) {r o o' : Nat} {u u' : Value} (hr : ∀ cur, w.heap[r]? ≠ some (.cells cur 74 (0, 0))) : NumS ((w.setCell ⟨r, o, none⟩ u).setCell ⟨r, o', none⟩ u') base v bs := by
  refine ⟨⟨h.1.1, ?_⟩, h.2⟩
  rcases h.1.2 with hn | ⟨g, c, cur, rfl, h1, hg, rest⟩
  · exact .inl hn
  · have hne : g ≠ r := fun e => hr cur (by rw [← e]; exact hg)
    refine .inr ⟨g, c, cur, rfl, h1, ?_, rest⟩
    rw [Below.heap_setCell _ ⟨r, o', none⟩ u' g hne, Below.heap_setCell w ⟨r, o, none⟩ u g hne]
    exact hg

theorem Nv.store2 {w : World} {v : Value} {l : Nat} {x : Int} {d k e : Nat} (h : Nv w v l x d k e) {r o o' : Nat} {u u' : Value} (hr : ∀ cur, w.heap[r]? ≠ some (.cells cur 74 (0, 0))) : Nv ((w.setCell ⟨r, o, none⟩ u).setCell ⟨r, o', none⟩ u') v l x d k e := by
  obtain ⟨bs, xs, h1, h2, h3, h4⟩ := h
  exact ⟨bs, xs, h1.store2 hr, h2, h3, h4⟩

theorem Nv.to {w : World} {v : Value} {l : Nat} {x y : Int} {d k e : Nat} (h : Nv w v l x d k e) (hx : x = y) : Nv w v l y d k e := hx ▸ h

theorem cell_store_other {w5 : World} {R b o : Nat} {u u' : Value} (hb : b ≠ R) : ((w5.setCell ⟨R, 0, none⟩ u).setCell ⟨R, 1, none⟩ u').cell? ⟨b, o, none⟩ = w5.cell? ⟨b, o, none⟩ :=
  World.cell?_of_block (w := w5) (a := ⟨b, o, none⟩) (by rw [Below.heap_setCell _ ⟨R, 1, none⟩ u' b hb, Below.heap_setCell _ ⟨R, 0, none⟩ u b hb])

set_option maxHeartbeats 4000000 in
set_option maxRecDepth 100000 in
theorem wayFrom_any (px py qx qy : Nat) (PX PY QX QY : Int) (w : World) (hpx : Co px PX) (hpy : Co py PY) (hqx : Co qx QX) (hqy : Co qy QY) :
    Calls Tryz.prog 38 #[.agg #[.float .f64 px, .float .f64 py], .agg #[.float .f64 qx, .float .f64 qy]] w fun e w' => ∃ v1 v2, e = .returned (.agg #[v1, v2]) ∧ Nv w' v1 0 (QX - PX) 974 1 1176 ∧ Nv w' v2 0 (QY - PY) 974 1 1176 ∧ Below w.heap.size w w' := by
  go_enter Tryz.func38, Tryz.ntmps38
  go_upto_region 1 with fail
  generalize hW : World.alloc (World.alloc (World.alloc w _) _) _ = W
  have hWs : W.heap.size = w.heap.size + 3 := by subst hW; simp
  have hw : Below w.heap.size w W := by
    subst hW
    exact ((((Below.refl _ w).alloc (Nat.le_refl _) _).alloc (by simp) _).alloc (by simp; omega) _)
  have KS : ∀ w' : World, (∀ b o, b < w.heap.size + 2 → w'.cell? ⟨b, o, none⟩ = W.cell? ⟨b, o, none⟩) → (w'.cell? ⟨w.heap.size, 0, none⟩ = some (.float .f64 px) ∧ w'.cell? ⟨w.heap.size, 1, none⟩ = some (.float .f64 py) ∧ w'.cell? ⟨w.heap.size + 1, 0, none⟩ = some (.float .f64 qx) ∧ w'.cell? ⟨w.heap.size + 1, 1, none⟩ = some (.float .f64 qy)) := by
    intro w' hc
    refine ⟨?_, ?_, ?_, ?_⟩
    all_goals (rw [hc _ _ (by omega)]; subst hW; simp [go_sem])
  have KR : Hid (∀ w', Below W.heap.size W w' → (w'.cell? ⟨w.heap.size + 1 + 1, 0, none⟩ = some (.slice none 0 0) ∧ w'.cell? ⟨w.heap.size + 1 + 1, 1, none⟩ = some (.slice none 0 0) ∧ w'.frozen? ⟨w.heap.size + 1 + 1, 0, none⟩ = false ∧ w'.frozen? ⟨w.heap.size + 1 + 1, 1, none⟩ = false) ∧ (∀ cur, w'.heap[w.heap.size + 1 + 1]? ≠ some (.cells cur 74 (0, 0)))) := by
    intro w' hb
    obtain ⟨hc, hf⟩ := bcell hb
    rw [hc _ _ (by omega), hc _ _ (by omega), hf _ _ (by omega), hf _ _ (by omega), hb.block _ (by omega)]
    subst hW
    refine ⟨by simp [go_sem], fun cur h => ?_⟩
    rw [show w.heap.size + 1 + 1 = ((w.alloc _).alloc _).heap.size by simp, heap_alloc_new] at h
    simp at h
  clear hW
  have HWS : Hid (W.heap.size = w.heap.size + 3) := hWs
  have hWs' : w.heap.size + 3 ≤ W.heap.size := by omega
  clear hWs
  have hS0 := KS W (fun _ _ _ => rfl)
  go_region_held3 (fun w' : World => (w'.cell? ⟨w.heap.size, 0, none⟩ = some (.float .f64 px) ∧ w'.cell? ⟨w.heap.size, 1, none⟩ = some (.float .f64 py) ∧ w'.cell? ⟨w.heap.size + 1, 0, none⟩ = some (.float .f64 qx) ∧ w'.cell? ⟨w.heap.size + 1, 1, none⟩ = some (.float .f64 qy))) (first | exact KS _ (fun b o h => (cell_store_other (by omega)).trans ((bcell hW2).1 b o (by omega))) | exact KS _ (fun b o h => (bcell (W := W) (by repeat (first | exact hW2 | exact hW1 | exact Below.refl _ _ | refine Below.drew ?_ | refine below_alloc _ ?_))).1 b o (by omega))) (first | (go_at_call 56; have gg1 := hb1; go_must (refine (sum2_nv _ qy (py ^^^ 9223372036854775808) QY (-PY) _ ?_ ?_ ?_ hqy hpy.neg).mono ?_; (focus first | (simp [go_sem]; done) | (rw [(bcell hb1).1 _ _ (by simp <;> omega)]; simp [go_sem]; done)); (focus first | (simp [go_sem]; done) | (rw [(bcell hb1).1 _ _ (by simp <;> omega)]; simp [go_sem]; done)); (focus first | (simp; done) | (simp; omega) | (have := hb1.size; simp at this; omega) | (have := hb1.size; simp at this ⊢; omega)); rintro e w2 ⟨v2, rfl, hn2, hb2⟩; obtain ⟨g2, n2, c2, hv2⟩ := hn2.form; subst hv2; have hW2 : Below W.heap.size W w2 := below_step hb2 (by repeat (first | exact hW2 | exact hW1 | exact Below.refl _ _ | refine Below.drew ?_ | refine below_alloc _ ?_)); obtain ⟨⟨r0, r1, f0, f1⟩, hrow⟩ := KR.out w2 hW2; have hk1 : Nv w2 (.slice (some ⟨g1, 0, none⟩) n1 c1) 0 (QX + -PX) 974 1 1176 := (by first | exact hn1.kept hb2 | exact hn1.kept (below_step hb2 ((Below.refl _ _).alloc (Nat.le_refl _) _))))) | (go_at_call 56; go_must (refine (sum2_nv _ qx (px ^^^ 9223372036854775808) QX (-PX) _ ?_ ?_ ?_ hqx hpx.neg).mono ?_; (focus first | (simp [go_sem]; done) | (rw [(bcell hb1).1 _ _ (by simp <;> omega)]; simp [go_sem]; done)); (focus first | (simp [go_sem]; done) | (rw [(bcell hb1).1 _ _ (by simp <;> omega)]; simp [go_sem]; done)); (focus first | (simp; done) | (simp; omega) | (have := hb1.size; simp at this; omega) | (have := hb1.size; simp at this ⊢; omega)); rintro e w1 ⟨v1, rfl, hn1, hb1⟩; obtain ⟨g1, n1, c1, hv1⟩ := hn1.form; subst hv1; have hW1 : Below W.heap.size W w1 := below_step hb1 (by repeat (first | exact Below.refl _ _ | refine Below.drew ?_ | refine below_alloc _ ?_)))))
  all_goals
    go_wp2
    refine bodyPost_ret (v := .agg #[.slice (some ⟨g1, 0, none⟩) n1 c1, .slice (some ⟨g2, 0, none⟩) n2 c2]) (by simp [results, Tryz.results38, go_sem, r0, r1]) rfl ⟨_, _, rfl, (hk1.store2 hrow).to Int.sub_eq_add_neg.symm, (hn2.store2 hrow).to Int.sub_eq_add_neg.symm, ?_⟩
    have hbw : Below w.heap.size w w2 := hw.trans (hW2.mono hw.size)
    exact (hbw.setCell (by simp; omega) _).setCell (by simp; omega) _

end Go.Proofs.YtbjjkfmdkmbcfaaGreat
