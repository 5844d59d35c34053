import Derived.Test.YtbjjkfmdkmbcfaaGreatRc
namespace Go.Proofs.YtbjjkfmdkmbcfaaGreat
open Go.RowKit
open PlLv

attribute [local go_sem ↓] Go.wp_at_zero Go.wp_at_succ

theorem Lim.form {w : World} {v : Value} {ls : List Nat} (h : Lim w v ls) : ∃ ao c, v = .slice ao ls.length c ∧ ∀ t, t < ls.length → ∃ g, ao = some ⟨g, 0, none⟩ ∧ g < w.heap.size ∧ w.cell? ⟨g, t, none⟩ = some (.int .u32 ((ls.getD t 0 : Nat) : Int)) := by
  rcases h.cases with ⟨rfl, rfl⟩ | ⟨g, c, rfl, hg, _, _, hc⟩
  · exact ⟨_, _, rfl, fun t ht => by simp at ht⟩
  · exact ⟨_, _, rfl, fun t ht => ⟨g, rfl, hg, hc t ht⟩⟩

theorem limbs_sum_any (va vb : Value) (la lb : List Nat) (w : World) (ha : Lim w va la) (hb : Lim w vb lb) (h1 : la.length ≤ 500) (h2 : lb.length ≤ 500) :
    Calls Tryz.prog 62 #[va, vb, .bool false] w fun e w' => ∃ v' ks, e = .returned v' ∧ Lim w' v' ks ∧ Tr ks ∧ lv ks = lv la + lv lb ∧ Below w.heap.size w w' := by
  obtain ⟨ao, c, rfl, hca⟩ := ha.form
  obtain ⟨bo, d, rfl, hcb⟩ := hb.form
  exact limbs_sum ao bo _ _ c d la lb w rfl rfl (by omega) (by omega) ha.ok hb.ok hca hcb

theorem limbs_less_any (va vb : Value) (la lb : List Nat) (w : World) (ha : Lim w va la) (hb : Lim w vb lb) (h1 : la.length ≤ 500) (h2 : lb.length ≤ 500) (hle : lv lb ≤ lv la) :
    Calls Tryz.prog 62 #[va, vb, .bool true] w fun e w' => ∃ v' ks, e = .returned v' ∧ Lim w' v' ks ∧ Tr ks ∧ lv ks = lv la - lv lb ∧ Below w.heap.size w w' := by
  obtain ⟨ao, c, rfl, hca⟩ := ha.form
  obtain ⟨bo, d, rfl, hcb⟩ := hb.form
  exact limbs_less ao bo _ _ c d la lb w rfl rfl (by omega) (by omega) ha.ok hb.ok hle hca hcb

/-- A whole number, as it lies in memory. -/
structure Bg (w : World) (neg : Bool) (v : Value) (ls : List Nat) (x : Int) : Prop where
  lim : Lim w v ls
  tr : Tr ls
  eq : x = sv neg ls
  pos : neg = true → ls ≠ []

def Small (x : Int) : Prop := x.natAbs < P 200

theorem Bg.kept {w w' : World} {neg : Bool} {v : Value} {ls : List Nat} {x : Int} (h : Bg w neg v ls x) (hb : Below w.heap.size w w') : Bg w' neg v ls x := ⟨h.lim.kept hb, h.tr, h.eq, h.pos⟩

theorem sv_natAbs (neg : Bool) (ls : List Nat) : (sv neg ls).natAbs = lv ls := by unfold sv; cases neg <;> simp

theorem Bg.len {w : World} {neg : Bool} {v : Value} {ls : List Nat} {x : Int} (h : Bg w neg v ls x) (hs : Small x) : ls.length ≤ 200 := by
  unfold Small at hs
  rw [h.eq, sv_natAbs] at hs
  by_cases h0 : ls = []
  · subst h0; simp
  · have h1 := lv_ge ls h.tr h0
    by_cases hl : ls.length ≤ 200
    · exact hl
    · have := P_mono (show 200 ≤ ls.length - 1 by omega)
      omega

theorem Bg.zero_iff {w : World} {neg : Bool} {v : Value} {ls : List Nat} {x : Int} (h : Bg w neg v ls x) : x = 0 ↔ ls = [] := by
  rw [← lv_zero_iff ls h.tr, h.eq, ← sv_natAbs neg ls]; omega

theorem Bg.neg_iff {w : World} {neg : Bool} {v : Value} {ls : List Nat} {x : Int} (h : Bg w neg v ls x) : neg = true ↔ x < 0 := by
  have h1 := h.eq
  have h2 := h.pos
  have h3 := lv_zero_iff ls h.tr
  unfold sv at h1
  cases neg
  · simp at h1 ⊢; omega
  · have h4 : lv ls ≠ 0 := fun h0 => h2 rfl (h3.1 h0)
    simp at h1 ⊢; omega

theorem bg_form {w : World} {neg : Bool} {v : Value} {ls : List Nat} {x : Int} (h : Bg w neg v ls x) : ∃ ao c, v = .slice ao ls.length c := by
  obtain ⟨ao, c, h1, _⟩ := h.lim.form
  exact ⟨ao, c, h1⟩

set_option maxHeartbeats 400000 in
theorem sign_bg (neg : Bool) (v : Value) (ls : List Nat) (x : Int) (w : World) (h : Bg w neg v ls x) : Calls Tryz.prog 22 #[.agg #[.bool neg, v]] w fun e w' => e = .returned (.int .i64 (PlRd.sgn x)) ∧ Below w.heap.size w w' := by
  have hz := h.zero_iff
  have hn := h.neg_iff
  have hl := h.lim.len
  obtain ⟨ao, c, rfl⟩ := bg_form h
  clear h
  rcases Nat.eq_zero_or_pos ls.length with h0 | h0
  · have e0 : ls = [] := List.eq_nil_of_length_eq_zero h0
    have hx : x = 0 := hz.2 e0
    have HX : Hid (PlRd.sgn x = 0) := by unfold Hid; rw [hx]; rfl
    rw [h0]
    clear hz hn hx h0 e0 hl
    go_enter Tryz.func22, Tryz.ntmps22
    go_wp2
    go_ret
    exact ⟨ret_int HX.out.symm, (Below.refl _ _).alloc (Nat.le_refl _) _⟩
  · have hx : x ≠ 0 := fun h => by have := hz.1 h; rw [this] at h0; simp at h0
    obtain ⟨n, hn'⟩ : ∃ n, ls.length = n := ⟨_, rfl⟩
    rw [hn'] at h0 hl ⊢
    have h0' : ((n : Int) == 0) = false := by simp; omega
    cases neg
    · have HX : Hid (PlRd.sgn x = 1) := by
        have : ¬ x < 0 := fun h => by simpa using hn.2 h
        unfold Hid PlRd.sgn; rw [if_pos (by omega)]
      clear hz hn hx hn' h0
      go_enter Tryz.func22, Tryz.ntmps22
      go_wp2
      go_ret
      exact ⟨ret_int HX.out.symm, (Below.refl _ _).alloc (Nat.le_refl _) _⟩
    · have HX : Hid (PlRd.sgn x = -1) := by
        have : x < 0 := hn.1 rfl
        unfold Hid PlRd.sgn; rw [if_neg (by omega), if_pos this]
      clear hz hn hx hn' h0
      go_enter Tryz.func22, Tryz.ntmps22
      go_wp2
      go_ret
      exact ⟨ret_int HX.out.symm, (Below.refl _ _).alloc (Nat.le_refl _) _⟩

end Go.Proofs.YtbjjkfmdkmbcfaaGreat
