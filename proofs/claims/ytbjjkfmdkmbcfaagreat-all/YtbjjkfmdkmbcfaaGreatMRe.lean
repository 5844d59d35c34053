import Derived.Test.YtbjjkfmdkmbcfaaGreatMRc
namespace Go.Proofs.YtbjjkfmdkmbcfaaGreat
open Go.RowKit
open PlLv

attribute [local go_sem ↓] Go.wp_at_zero Go.wp_at_succ

theorem Lim.form {w : World} {v : Value} {ls : List Nat} (h : Lim w v ls) : ∃ ao c, v = .slice ao ls.length c ∧ ∀ t, t < ls.length → ∃ g, ao = some ⟨g, 0, none⟩ ∧ g < w.heap.size ∧ w.cell? ⟨g, t, none⟩ = some (.int .u32 ((ls.getD t 0 : Nat) : Int)) := by
  rcases h.cases with ⟨rfl, rfl⟩ | ⟨g, c, rfl, hg, _, _, hc⟩
  · exact ⟨_, _, rfl, fun t ht => by simp at ht⟩
  · exact ⟨_, _, rfl, fun t ht => ⟨g, rfl, hg, hc t ht⟩⟩

theorem limbs_sum_any (va vb : Value) (la lb : List Nat) (w : World) (ha : Lim w va la) (hb : Lim w vb lb) (h1 : la.length ≤ 500) (h2 : lb.length ≤ 500) :
    Calls Tryz.prog 62 #[va, vb, .bool false] w fun e w' => ∃ v' ks, e = .returned v' ∧ Lim w' v' ks ∧ Tr ks ∧ lv ks = lv la + lv lb ∧ Below w.heap.size w w' := by
  obtain ⟨ao, c, rfl, hca⟩ := ha.form
  obtain ⟨bo, d, rfl, hcb⟩ := hb.form
  exact limbs_sum ao bo _ _ c d la lb w rfl rfl (by omega) (by omega) ha.ok hb.ok hca hcb

theorem limbs_less_any (va vb : Value) (la lb : List Nat) (w : World) (ha : Lim w va la) (hb : Lim w vb lb) (h1 : la.length ≤ 500) (h2 : lb.length ≤ 500) (hle : lv lb ≤ lv la) :
    Calls Tryz.prog 62 #[va, vb, .bool true] w fun e w' => ∃ v' ks, e = .returned v' ∧ Lim w' v' ks ∧ Tr ks ∧ lv ks = lv la - lv lb ∧ Below w.heap.size w w' := by
  obtain ⟨ao, c, rfl, hca⟩ := ha.form
  obtain ⟨bo, d, rfl, hcb⟩ := hb.form
  exact limbs_less ao bo _ _ c d la lb w rfl rfl (by omega) (by omega) ha.ok hb.ok hle hca hcb

/-- A whole number, as it lies in memory. -/
structure Bg (w : World) (neg : Bool) (v : Value) (ls : List Nat) (x : Int) : Prop where
  lim : Lim w v ls
  tr : Tr ls
  eq : x = sv neg ls
  pos : neg = true → ls ≠ []

def Small (x : Int) : Prop := x.natAbs < P 200

theorem Bg.kept {w w' : World} {neg : Bool} {v : Value} {ls : List Nat} {x : Int} (h : Bg w neg v ls x) (hb : Below w.heap.size w w') : Bg w' neg v ls x := ⟨h.lim.kept hb, h.tr, h.eq, h.pos⟩

theorem sv_natAbs (neg : Bool) (ls : List Nat) : (sv neg ls).natAbs = lv ls := by unfold sv; cases neg <;> simp

theorem Bg.len {w : World} {neg : Bool} {v : Value} {ls : List Nat} {x : Int} (h : Bg w neg v ls x) (hs : Small x) : ls.length ≤ 200 := by
  unfold Small at hs
  rw [h.eq, sv_natAbs] at hs
  by_cases h0 : ls = []
  · subst h0; simp
  · have h1 := lv_ge ls h.tr h0
    by_cases hl : ls.length ≤ 200
    · exact hl
    · have := P_mono (show 200 ≤ ls.length - 1 by omega)
      omega

theorem Bg.zero_iff {w : World} {neg : Bool} {v : Value} {ls : List Nat} {x : Int} (h : Bg w neg v ls x) : x = 0 ↔ ls = [] := by
  rw [← lv_zero_iff ls h.tr, h.eq, ← sv_natAbs neg ls]; omega

theorem Bg.neg_iff {w : World} {neg : Bool} {v : Value} {ls : List Nat} {x : Int} (h : Bg w neg v ls x) : neg = true ↔ x < 0 := by
  have h1 := h.eq
  have h2 := h.pos
  have h3 := lv_zero_iff ls h.tr
  unfold sv at h1
  cases neg
  · simp at h1 ⊢; omega
  · have h4 : lv ls ≠ 0 := fun h0 => h2 rfl (h3.1 h0)
    simp at h1 ⊢; omega

theorem bg_form {w : World} {neg : Bool} {v : Value} {ls : List Nat} {x : Int} (h : Bg w neg v ls x) : ∃ ao c, v = .slice ao ls.length c := by
  obtain ⟨ao, c, h1, _⟩ := h.lim.form
  exact ⟨ao, c, h1⟩

set_option maxHeartbeats 400000 in
theorem sign_bg (neg : Bool) (v : Value) (ls : List Nat) (x : Int) (w : World) (h : Bg w neg v ls x) : Calls Tryz.prog 22 #[.agg #[.bool neg, v]] w fun e w' => e = .returned (.int .i64 (PlRd.sgn x)) ∧ Below w.heap.size w w' := by
  have hz := h.zero_iff
  have hn := h.neg_iff
  have hl := h.lim.len
  obtain ⟨ao, c, rfl⟩ := bg_form h
  clear h
  rcases Nat.eq_zero_or_pos ls.length with h0 | h0
  · have e0 : ls = [] := List.eq_nil_of_length_eq_zero h0
    have hx : x = 0 := hz.2 e0
    have HX : Hid (PlRd.sgn x = 0) := by unfold Hid; rw [hx]; rfl
    rw [h0]
    clear hz hn hx h0 e0 hl
    go_enter Tryz.func22, Tryz.ntmps22
    go_wp2
    go_ret
    exact ⟨ret_int HX.out.symm, (Below.refl _ _).alloc (Nat.le_refl _) _⟩
  · have hx : x ≠ 0 := fun h => by have := hz.1 h; rw [this] at h0; simp at h0
    obtain ⟨n, hn'⟩ : ∃ n, ls.length = n := ⟨_, rfl⟩
    rw [hn'] at h0 hl ⊢
    have h0' : ((n : Int) == 0) = false := by simp; omega
    cases neg
    · have HX : Hid (PlRd.sgn x = 1) := by
        have : ¬ x < 0 := fun h => by simpa using hn.2 h
        unfold Hid PlRd.sgn; rw [if_pos (by omega)]
      clear hz hn hx hn' h0
      go_enter Tryz.func22, Tryz.ntmps22
      go_wp2
      go_ret
      exact ⟨ret_int HX.out.symm, (Below.refl _ _).alloc (Nat.le_refl _) _⟩
    · have HX : Hid (PlRd.sgn x = -1) := by
        have : x < 0 := hn.1 rfl
        unfold Hid PlRd.sgn; rw [if_neg (by omega), if_pos this]
      clear hz hn hx hn' h0
      go_enter Tryz.func22, Tryz.ntmps22
      go_wp2
      go_ret
      exact ⟨ret_int HX.out.symm, (Below.refl _ _).alloc (Nat.le_refl _) _⟩

end Go.Proofs.YtbjjkfmdkmbcfaaGreat

namespace Go.Proofs.YtbjjkfmdkmbcfaaGreat
open Go.RowKit
open PlLv

attribute [local go_sem ↓] Go.wp_at_zero Go.wp_at_succ

theorem below_step2 {B : Nat} {W X w1 : World} (hb : Below X.heap.size X w1) (h : Below B W X) (hB : B ≤ W.heap.size) : Below B W w1 := h.trans (hb.mono (Nat.le_trans hB h.size))

/-- Two stores into another kind of block leave the limbs. -/
theorem Lim.store2 {w : World} {v : Value} {ls : List Nat} (h : Lim w v ls) {r o o' : Nat} {u u' : Value} (hr : ∀ cur, w.heap[r]? ≠ some (.cells cur 105 (0, 0))) : Lim ((w.setCell ⟨r, o, none⟩ u).setCell ⟨r, o', none⟩ u') v ls := by
  refine ⟨⟨h.own.1, ?_⟩, h.ok, h.len⟩
  rcases h.own.2 with hn | ⟨g, c, cur, rfl, h1, hg, rest⟩
  · exact .inl hn
  · have hne : g ≠ r := fun e => hr cur (by rw [← e]; exact hg)
    refine .inr ⟨g, c, cur, rfl, h1, ?_, rest⟩
    rw [Below.heap_setCell _ ⟨r, o', none⟩ u' g hne, Below.heap_setCell w ⟨r, o, none⟩ u g hne]
    exact hg

theorem sv_add {neg : Bool} {la lb ks : List Nat} {x y : Int} (hx : x = sv neg la) (hy : y = sv neg lb) (he : lv ks = lv la + lv lb) : x + y = sv neg ks := by
  unfold sv at *
  cases neg <;> simp at * <;> omega

theorem pos_add {la lb ks : List Nat} (h : la ≠ []) (ht : Tr la) (he : lv ks = lv la + lv lb) : ks ≠ [] := by
  intro h0
  have h1 : lv la ≠ 0 := fun h2 => h ((lv_zero_iff la ht).1 h2)
  rw [h0] at he
  simp [lv] at he
  omega

set_option maxHeartbeats 2000000 in
set_option maxRecDepth 100000 in
/-- 'Sum' of two numbers of one sign. -/
theorem sum_same (na : Bool) (va vb : Value) (la lb : List Nat) (x y : Int) (w : World) (ha : Bg w na va la x) (hb : Bg w na vb lb y) (hsa : Small x) (hsb : Small y) :
    Calls Tryz.prog 46 #[.agg #[.bool na, va], .agg #[.bool na, vb]] w fun e w' => ∃ nc vc lc, e = .returned (.agg #[.bool nc, vc]) ∧ Bg w' nc vc lc (x + y) ∧ Below w.heap.size w w' := by
  obtain ⟨ao, c, hva⟩ := bg_form ha
  obtain ⟨bo, d, hvb⟩ := bg_form hb
  have hla := ha.len hsa
  have hlb := hb.len hsb
  obtain ⟨n, hn⟩ : ∃ n, la.length = n := ⟨_, rfl⟩
  obtain ⟨m, hm⟩ : ∃ m, lb.length = m := ⟨_, rfl⟩
  rw [hn] at hva hla
  rw [hm] at hvb hlb
  subst hva hvb
  go_enter Tryz.func46, Tryz.ntmps46
  go_wp2_with fail
  generalize hW : World.alloc (World.alloc (World.alloc w _) _) _ = W
  have hWs : W.heap.size = w.heap.size + 3 := by subst hW; simp
  have hWb : Below w.heap.size w W := by
    subst hW
    exact ((((Below.refl _ w).alloc (Nat.le_refl _) _).alloc (by simp) _).alloc (by simp; omega) _)
  have hBW : w.heap.size + 2 ≤ W.heap.size := by omega
  have KS : ∀ w', Below (w.heap.size + 2) W w' → (w'.cell? ⟨w.heap.size, 0, none⟩ = some (.bool na) ∧ w'.cell? ⟨w.heap.size, 1, none⟩ = some (.slice ao n c) ∧ w'.cell? ⟨w.heap.size + 1, 0, none⟩ = some (.bool na) ∧ w'.cell? ⟨w.heap.size + 1, 1, none⟩ = some (.slice bo m d)) ∧ Below (w.heap.size + 2) W w' := by
    intro w' hb
    have hc : ∀ b o, b < w.heap.size + 2 → w'.cell? ⟨b, o, none⟩ = W.cell? ⟨b, o, none⟩ := fun b o h => hb.cell (p := ⟨b, o, none⟩) h
    refine ⟨⟨?_, ?_, ?_, ?_⟩, hb⟩
    all_goals (rw [hc _ _ (by omega)]; subst hW; simp [go_sem])
  have KR : ∀ w', Below W.heap.size W w' → (w'.cell? ⟨w.heap.size + 1 + 1, 0, none⟩ = some (.bool false) ∧ w'.cell? ⟨w.heap.size + 1 + 1, 1, none⟩ = some (.slice none 0 0) ∧ w'.frozen? ⟨w.heap.size + 1 + 1, 0, none⟩ = false ∧ w'.frozen? ⟨w.heap.size + 1 + 1, 1, none⟩ = false) ∧ (∀ cur, w'.heap[w.heap.size + 1 + 1]? ≠ some (.cells cur 105 (0, 0))) := by
    intro w' hb
    obtain ⟨hc, hf⟩ := bcell hb
    rw [hc _ _ (by omega), hc _ _ (by omega), hf _ _ (by omega), hf _ _ (by omega), hb.block _ (by omega)]
    subst hW
    refine ⟨by simp [go_sem], fun cur h => ?_⟩
    rw [show w.heap.size + 1 + 1 = ((w.alloc _).alloc _).heap.size by simp, heap_alloc_new] at h
    simp at h
  have HA := ha.lim.kept hWb
  have HB := hb.lim.kept hWb
  clear hW hWs
  have hS0 := KS W (Below.refl _ _)
  go_region_held3 (fun w' => (w'.cell? ⟨w.heap.size, 0, none⟩ = some (.bool na) ∧ w'.cell? ⟨w.heap.size, 1, none⟩ = some (.slice ao n c) ∧ w'.cell? ⟨w.heap.size + 1, 0, none⟩ = some (.bool na) ∧ w'.cell? ⟨w.heap.size + 1, 1, none⟩ = some (.slice bo m d)) ∧ Below (w.heap.size + 2) W w') (first | exact KS _ (Below.refl _ _).drew | (go_split_ands; first | exact KS _ (below_step2 hb1 (by assumption) hBW) | exact KS _ (Below.setCell (Below.setCell (by assumption) (by simp) _) (by simp) _) | exact KS _ (Below.drew (by assumption)) | exact KS _ (by assumption))) (first | (go_at_call 62; refine (limbs_sum_any _ _ la lb _ (HA.kept (Below.refl _ _).drew) (HB.kept (Below.refl _ _).drew) (by omega) (by omega)).mono ?_; rintro e w1 ⟨v1, ks, rfl, hl1, ht1, he1, hb1⟩; obtain ⟨a1, c1, hv1, _⟩ := hl1.form; subst hv1; obtain ⟨⟨r0, r1, f0, f1⟩, hrow⟩ := KR w1 (below_step hb1 (Below.refl _ _).drew)))
  all_goals
    go_wp2
    have hb1' : Below W.heap.size W w1 := below_step hb1 (Below.refl _ _).drew
    refine bodyPost_ret (v := .agg #[.bool na, .slice a1 ks.length c1]) (by simp [results, Tryz.results46, go_sem, r0, r1]) rfl ⟨na, _, ks, rfl, ⟨hl1.store2 hrow, ht1, sv_add ha.eq hb.eq he1, fun h => pos_add (ha.pos h) ha.tr he1⟩, ?_⟩
    exact hWb.trans (((hb1'.mono hWb.size).setCell (by simp; omega) _).setCell (by simp; omega) _)

theorem sv_sub_l {neg nb : Bool} {la lb ks : List Nat} {x y : Int} (hn : (neg == nb) = false) (hx : x = sv neg la) (hy : y = sv nb lb) (hle : lv lb ≤ lv la) (he : lv ks = lv la - lv lb) : x + y = sv neg ks := by
  unfold sv at *
  cases neg <;> cases nb <;> simp at * <;> omega

theorem sv_sub_r {neg nb : Bool} {la lb ks : List Nat} {x y : Int} (hn : (neg == nb) = false) (hx : x = sv neg la) (hy : y = sv nb lb) (hle : lv la ≤ lv lb) (he : lv ks = lv lb - lv la) : x + y = sv nb ks := by
  unfold sv at *
  cases neg <;> cases nb <;> simp at * <;> omega

theorem pos_sub {la lb ks : List Nat} (hlt : lv lb < lv la) (he : lv ks = lv la - lv lb) : ks ≠ [] := by
  intro h0
  rw [h0] at he
  simp [lv] at he
  omega

set_option maxHeartbeats 4000000 in
set_option maxRecDepth 100000 in
/-- 'Sum' of two numbers of different signs. -/
theorem sum_diff (na nb : Bool) (va vb : Value) (la lb : List Nat) (x y : Int) (w : World) (ha : Bg w na va la x) (hb : Bg w nb vb lb y) (hsa : Small x) (hsb : Small y) (htt : (na == nb) = false) :
    Calls Tryz.prog 46 #[.agg #[.bool na, va], .agg #[.bool nb, vb]] w fun e w' => ∃ nc vc lc, e = .returned (.agg #[.bool nc, vc]) ∧ Bg w' nc vc lc (x + y) ∧ Below w.heap.size w w' := by
  obtain ⟨ao, c, hva⟩ := bg_form ha
  obtain ⟨bo, d, hvb⟩ := bg_form hb
  have hla := ha.len hsa
  have hlb := hb.len hsb
  obtain ⟨n, hn⟩ : ∃ n, la.length = n := ⟨_, rfl⟩
  obtain ⟨m, hm⟩ : ∃ m, lb.length = m := ⟨_, rfl⟩
  rw [hn] at hva hla
  rw [hm] at hvb hlb
  subst hva hvb
  have HC : Hid (lv la < lv lb ∨ lv la = lv lb ∨ lv lb < lv la) := Nat.lt_trichotomy ..
  have HT : Hid ((na == nb) = false) := htt
  go_enter Tryz.func46, Tryz.ntmps46
  go_wp2_with fail
  generalize hW : World.alloc (World.alloc (World.alloc w _) _) _ = W
  have hWs : W.heap.size = w.heap.size + 3 := by subst hW; simp
  have hWb : Below w.heap.size w W := by
    subst hW
    exact ((((Below.refl _ w).alloc (Nat.le_refl _) _).alloc (by simp) _).alloc (by simp; omega) _)
  have hBW : w.heap.size + 2 ≤ W.heap.size := by omega
  have KS : ∀ w', Below (w.heap.size + 2) W w' → (w'.cell? ⟨w.heap.size, 0, none⟩ = some (.bool na) ∧ w'.cell? ⟨w.heap.size, 1, none⟩ = some (.slice ao n c) ∧ w'.cell? ⟨w.heap.size + 1, 0, none⟩ = some (.bool nb) ∧ w'.cell? ⟨w.heap.size + 1, 1, none⟩ = some (.slice bo m d)) ∧ Below (w.heap.size + 2) W w' := by
    intro w' hb
    have hc : ∀ b o, b < w.heap.size + 2 → w'.cell? ⟨b, o, none⟩ = W.cell? ⟨b, o, none⟩ := fun b o h => hb.cell (p := ⟨b, o, none⟩) h
    refine ⟨⟨?_, ?_, ?_, ?_⟩, hb⟩
    all_goals (rw [hc _ _ (by omega)]; subst hW; simp [go_sem])
  have KR : ∀ w', Below W.heap.size W w' → (w'.cell? ⟨w.heap.size + 1 + 1, 0, none⟩ = some (.bool false) ∧ w'.cell? ⟨w.heap.size + 1 + 1, 1, none⟩ = some (.slice none 0 0) ∧ w'.frozen? ⟨w.heap.size + 1 + 1, 0, none⟩ = false ∧ w'.frozen? ⟨w.heap.size + 1 + 1, 1, none⟩ = false) ∧ (∀ cur, w'.heap[w.heap.size + 1 + 1]? ≠ some (.cells cur 105 (0, 0))) := by
    intro w' hb
    obtain ⟨hc, hf⟩ := bcell hb
    rw [hc _ _ (by omega), hc _ _ (by omega), hf _ _ (by omega), hf _ _ (by omega), hb.block _ (by omega)]
    subst hW
    refine ⟨by simp [go_sem], fun cur h => ?_⟩
    rw [show w.heap.size + 1 + 1 = ((w.alloc _).alloc _).heap.size by simp, heap_alloc_new] at h
    simp at h
  have HA := ha.lim.kept hWb
  have HB := hb.lim.kept hWb
  clear hW hWs
  have hS0 := KS W (Below.refl _ _)
  have HO : Hid (∀ W', Below W.heap.size W W' → Calls Tryz.prog 63 #[.slice ao n c, .slice bo m d] W' fun e w' => e = .returned (.int .i64 (cmp (lv la) (lv lb))) ∧ Below W'.heap.size W' w') := fun W' h => order_any _ _ la lb W' (HA.kept h) (HB.kept h) ha.tr hb.tr
  refine (HO.out W (Below.refl _ _)).mono ?_
  rintro e w0 ⟨rfl, hb0⟩
  have hW0 : Below (w.heap.size + 2) W w0 := hb0.mono hBW
  have hS1 := KS w0 hW0
  have HA0 := HA.kept hb0
  have HB0 := HB.kept hb0
  rcases HC.out with hlt | hlt | hlt
  · have hc : cmp (lv la) (lv lb) = -1 := cmp_lt hlt
    rw [hc]
    go_wp2
    go_region_held3 (fun w' => (w'.cell? ⟨w.heap.size, 0, none⟩ = some (.bool na) ∧ w'.cell? ⟨w.heap.size, 1, none⟩ = some (.slice ao n c) ∧ w'.cell? ⟨w.heap.size + 1, 0, none⟩ = some (.bool nb) ∧ w'.cell? ⟨w.heap.size + 1, 1, none⟩ = some (.slice bo m d)) ∧ Below (w.heap.size + 2) W w') (first | exact KS _ (Below.refl _ _).drew | (go_split_ands; first | exact KS _ (below_step2 hb1 (by assumption) hBW) | exact KS _ (Below.setCell (Below.setCell (by assumption) (by simp) _) (by simp) _) | exact KS _ (Below.drew (by assumption)) | exact KS _ (by assumption))) (first | (go_at_call 62; refine (limbs_less_any _ _ lb la _ (HB0.kept (Below.refl _ _).drew) (HA0.kept (Below.refl _ _).drew) (by omega) (by omega) (by omega)).mono ?_; rintro e w1 ⟨v1, ks, rfl, hl1, ht1, he1, hb1⟩; obtain ⟨a1, c1, hv1, _⟩ := hl1.form; subst hv1; obtain ⟨⟨r0, r1, f0, f1⟩, hrow⟩ := KR w1 (below_step hb1 hb0.drew)))
    all_goals
      go_wp2
      have hb1' : Below W.heap.size W w1 := below_step hb1 hb0.drew
      refine bodyPost_ret (v := .agg #[.bool nb, .slice a1 ks.length c1]) (by simp [results, Tryz.results46, go_sem, r0, r1]) rfl ⟨nb, _, ks, rfl, ⟨hl1.store2 hrow, ht1, sv_sub_r HT.out ha.eq hb.eq (by omega) he1, fun _ => pos_sub hlt he1⟩, ?_⟩
      exact hWb.trans (((hb1'.mono hWb.size).setCell (by simp; omega) _).setCell (by simp; omega) _)
  · have hc : cmp (lv la) (lv lb) = 0 := cmp_eq hlt
    rw [hc]
    obtain ⟨⟨r0, r1, f0, f1⟩, hrow⟩ := KR w0 hb0
    go_wp2
    refine bodyPost_ret (v := .agg #[.bool false, .slice none 0 0]) (by simp [results, Tryz.results46, go_sem, r0, r1]) rfl ⟨false, _, [], rfl, ⟨⟨World.ownsRow_nil _ _ _ _, fun l hl => by simp at hl, by simp⟩, tr_nil, ?_, fun h => by cases h⟩, ?_⟩
    · exact sv_sub_l (ks := []) HT.out ha.eq hb.eq (by omega) (by simp [lv]; omega) |>.trans (by simp [sv, lv])
    · exact hWb.trans (((hb0.mono hWb.size).setCell (by simp; omega) _).setCell (by simp; omega) _)
  · have hc : cmp (lv la) (lv lb) = 1 := cmp_gt hlt
    rw [hc]
    go_wp2
    go_region_held3 (fun w' => (w'.cell? ⟨w.heap.size, 0, none⟩ = some (.bool na) ∧ w'.cell? ⟨w.heap.size, 1, none⟩ = some (.slice ao n c) ∧ w'.cell? ⟨w.heap.size + 1, 0, none⟩ = some (.bool nb) ∧ w'.cell? ⟨w.heap.size + 1, 1, none⟩ = some (.slice bo m d)) ∧ Below (w.heap.size + 2) W w') (first | exact KS _ (Below.refl _ _).drew | (go_split_ands; first | exact KS _ (below_step2 hb1 (by assumption) hBW) | exact KS _ (Below.setCell (Below.setCell (by assumption) (by simp) _) (by simp) _) | exact KS _ (Below.drew (by assumption)) | exact KS _ (by assumption))) (first | (go_at_call 62; refine (limbs_less_any _ _ la lb _ (HA0.kept (Below.refl _ _).drew) (HB0.kept (Below.refl _ _).drew) (by omega) (by omega) (by omega)).mono ?_; rintro e w1 ⟨v1, ks, rfl, hl1, ht1, he1, hb1⟩; obtain ⟨a1, c1, hv1, _⟩ := hl1.form; subst hv1; obtain ⟨⟨r0, r1, f0, f1⟩, hrow⟩ := KR w1 (below_step hb1 hb0.drew)))
    all_goals
      go_wp2
      have hb1' : Below W.heap.size W w1 := below_step hb1 hb0.drew
      refine bodyPost_ret (v := .agg #[.bool na, .slice a1 ks.length c1]) (by simp [results, Tryz.results46, go_sem, r0, r1]) rfl ⟨na, _, ks, rfl, ⟨hl1.store2 hrow, ht1, sv_sub_l HT.out ha.eq hb.eq (by omega) he1, fun _ => pos_sub hlt he1⟩, ?_⟩
      exact hWb.trans (((hb1'.mono hWb.size).setCell (by simp; omega) _).setCell (by simp; omega) _)

/-- 'Sum'. -/
theorem sum_bg (na nb : Bool) (va vb : Value) (la lb : List Nat) (x y : Int) (w : World) (ha : Bg w na va la x) (hb : Bg w nb vb lb y) (hsa : Small x) (hsb : Small y) :
    Calls Tryz.prog 46 #[.agg #[.bool na, va], .agg #[.bool nb, vb]] w fun e w' => ∃ nc vc lc, e = .returned (.agg #[.bool nc, vc]) ∧ Bg w' nc vc lc (x + y) ∧ Below w.heap.size w w' := by
  by_cases h : na = nb
  · subst h; exact sum_same na va vb la lb x y w ha hb hsa hsb
  · exact sum_diff na nb va vb la lb x y w ha hb hsa hsb (by simpa using h)

end Go.Proofs.YtbjjkfmdkmbcfaaGreat
