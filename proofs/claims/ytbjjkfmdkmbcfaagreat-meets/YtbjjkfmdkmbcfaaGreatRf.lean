import Derived.Test.YtbjjkfmdkmbcfaaGreatRe
namespace Go.Proofs.YtbjjkfmdkmbcfaaGreat
open Go.RowKit
open PlLv

attribute [local go_sem ↓] Go.wp_at_zero Go.wp_at_succ

theorem Bg.store2 {w : World} {neg : Bool} {v : Value} {ls : List Nat} {x : Int} (h : Bg w neg v ls x) {r o o' : Nat} {u u' : Value} (hr : ∀ cur, w.heap[r]? ≠ some (.cells cur 105 (0, 0))) : Bg ((w.setCell ⟨r, o, none⟩ u).setCell ⟨r, o', none⟩ u') neg v ls x :=
  ⟨h.lim.store2 hr, h.tr, h.eq, h.pos⟩

theorem Bg.opp {w : World} {neg : Bool} {v : Value} {ls : List Nat} {x : Int} (h : Bg w neg v ls x) : Bg w (!neg && decide (0 < ls.length)) v ls (-x) := by
  have he := h.eq
  refine ⟨h.lim, h.tr, ?_, fun hn => ?_⟩
  · unfold sv at *
    cases neg
    · by_cases h0 : 0 < ls.length
      · simp [h0] at he ⊢; omega
      · have : ls = [] := List.eq_nil_of_length_eq_zero (by omega)
        subst this
        simp [lv] at he ⊢; omega
    · simp at he ⊢; omega
  · intro h0
    rw [h0] at hn
    simp at hn

theorem small_neg {x : Int} (h : Small x) : Small (-x) := by unfold Small at *; rwa [Int.natAbs_neg]

set_option maxHeartbeats 1000000 in
set_option maxRecDepth 100000 in
theorem less_walk (na nb nb' : Bool) (ao bo : Option Addr) (n m c d : Nat) (la lb : List Nat) (x y : Int) (w : World) (ha : Bg w na (.slice ao n c) la x) (hb : Bg w nb' (.slice bo m d) lb (-y)) (hsa : Small x) (hsb : Small y)
    (hm : m ≤ 200) (hnb : (nb = true ∧ nb' = false) ∨ (nb = false ∧ decide (0 < m) = true ∧ nb' = true) ∨ (nb = false ∧ m = 0 ∧ nb' = false)) :
    Calls Tryz.prog 23 #[.agg #[.bool na, .slice ao n c], .agg #[.bool nb, .slice bo m d]] w fun e w' => ∃ nc vc lc, e = .returned (.agg #[.bool nc, vc]) ∧ Bg w' nc vc lc (x - y) ∧ Below w.heap.size w w' := by
  have HS : Hid (∀ W, Below w.heap.size w W → Calls Tryz.prog 46 #[.agg #[.bool na, .slice ao n c], .agg #[.bool nb', .slice bo m d]] W fun e w' => ∃ nc vc lc, e = .returned (.agg #[.bool nc, vc]) ∧ Bg w' nc vc lc (x - y) ∧ Below W.heap.size W w') :=
    fun W h => by rw [Int.sub_eq_add_neg]; exact sum_bg na nb' _ _ la lb x (-y) W (ha.kept h) (hb.kept h) hsa (small_neg hsb)
  have HW : Hid (∀ o1 o2 o3, Below w.heap.size w (((w.alloc o1).alloc o2).alloc o3)) := fun o1 o2 o3 => ((((Below.refl _ w).alloc (Nat.le_refl _) _).alloc (by simp) _).alloc (by simp; omega) _)
  have HR : Hid (∀ (o1 o2 : Obj) (W : World), Below (((w.alloc o1).alloc o2).alloc (.cells #[.bool false, .slice none 0 0] 53)).heap.size (((w.alloc o1).alloc o2).alloc (.cells #[.bool false, .slice none 0 0] 53)) W → (W.cell? ⟨w.heap.size + 1 + 1, 0, none⟩ = some (.bool false) ∧ W.cell? ⟨w.heap.size + 1 + 1, 1, none⟩ = some (.slice none 0 0) ∧ W.frozen? ⟨w.heap.size + 1 + 1, 0, none⟩ = false ∧ W.frozen? ⟨w.heap.size + 1 + 1, 1, none⟩ = false) ∧ (∀ cur, W.heap[w.heap.size + 1 + 1]? ≠ some (.cells cur 105 (0, 0)))) := by
    intro o1 o2 W hb
    obtain ⟨hc, hf⟩ := bcell hb
    rw [hc _ _ (by simp), hc _ _ (by simp), hf _ _ (by simp), hf _ _ (by simp), hb.block _ (by simp)]
    refine ⟨by simp [go_sem], fun cur h => ?_⟩
    rw [show w.heap.size + 1 + 1 = ((w.alloc o1).alloc o2).heap.size by simp, heap_alloc_new] at h
    simp at h
  clear ha hb hsa hsb
  rcases hnb with ⟨rfl, rfl⟩ | ⟨rfl, hm0, rfl⟩ | ⟨rfl, rfl, rfl⟩
  all_goals
    go_enter Tryz.func23, Tryz.ntmps23
    go_wp2_with (go_at_call 46; refine (HS.out _ (HW.out _ _ _)).mono ?_; rintro e w1 ⟨nc, vc, lc, rfl, hb1, hbel⟩; obtain ⟨a1, c1, hv1⟩ := bg_form hb1; subst hv1; obtain ⟨⟨r0, r1, f0, f1⟩, hrow⟩ := HR.out _ _ _ hbel)
    refine bodyPost_ret (v := .agg #[.bool nc, .slice a1 lc.length c1]) (by simp [results, Tryz.results23, go_sem, r0, r1]) rfl ⟨nc, _, lc, rfl, hb1.store2 hrow, ?_⟩
    have hbw := below_step hbel (HW.out _ _ _)
    exact (hbw.setCell (by simp; omega) _).setCell (by simp; omega) _

/-- 'Less'. -/
theorem less_bg (na nb : Bool) (va vb : Value) (la lb : List Nat) (x y : Int) (w : World) (ha : Bg w na va la x) (hb : Bg w nb vb lb y) (hsa : Small x) (hsb : Small y) :
    Calls Tryz.prog 23 #[.agg #[.bool na, va], .agg #[.bool nb, vb]] w fun e w' => ∃ nc vc lc, e = .returned (.agg #[.bool nc, vc]) ∧ Bg w' nc vc lc (x - y) ∧ Below w.heap.size w w' := by
  obtain ⟨ao, c, rfl⟩ := bg_form ha
  obtain ⟨bo, d, rfl⟩ := bg_form hb
  have hl := hb.len hsb
  refine less_walk na nb _ ao bo _ _ c d la lb x y w ha hb.opp hsa hsb hl ?_
  cases nb
  · by_cases h0 : 0 < lb.length
    · exact .inr (.inl ⟨rfl, by simpa using h0, by simp [h0]⟩)
    · exact .inr (.inr ⟨rfl, by omega, by simp [h0]⟩)
  · exact .inl ⟨rfl, rfl⟩

end Go.Proofs.YtbjjkfmdkmbcfaaGreat
