import Derived.Test.YtbjjkfmdkmbcfaaGreatRa
namespace Go.Proofs.YtbjjkfmdkmbcfaaGreat
open Go.RowKit
open PlLv

set_option maxHeartbeats 400000 in
theorem order_lt (ao bo : Option Addr) (n m c d : Nat) (w : World) (_hn : n ≤ 1000) (_hm : m ≤ 1000) (h : n < m) : Calls Tryz.prog 63 #[.slice ao n c, .slice bo m d] w fun e w' => e = .returned (.int .i64 (-1)) ∧ w' = w := by
  go_enter Tryz.func63, Tryz.ntmps63
  go_wp2
  go_ret
  exact ⟨rfl, rfl⟩

set_option maxHeartbeats 400000 in
theorem order_gt (ao bo : Option Addr) (n m c d : Nat) (w : World) (_hn : n ≤ 1000) (_hm : m ≤ 1000) (h : m < n) : Calls Tryz.prog 63 #[.slice ao n c, .slice bo m d] w fun e w' => e = .returned (.int .i64 1) ∧ w' = w := by
  go_enter Tryz.func63, Tryz.ntmps63
  go_wp2
  go_ret
  exact ⟨rfl, rfl⟩

set_option maxHeartbeats 400000 in
theorem order_zero (ao bo : Option Addr) (c d : Nat) (w : World) : Calls Tryz.prog 63 #[.slice ao 0 c, .slice bo 0 d] w fun e w' => e = .returned (.int .i64 0) ∧ w' = w := by
  go_enter Tryz.func63, Tryz.ntmps63
  go_wp2
  refine wp_loop_rounds 1 ?_
  rw [rounds_succ]
  go_wp2
  go_ret
  exact ⟨rfl, rfl⟩

theorem cmp_lt {a b : Nat} (h : a < b) : cmp a b = -1 := by unfold cmp; rw [if_pos h]
theorem cmp_gt {a b : Nat} (h : b < a) : cmp a b = 1 := by unfold cmp; rw [if_neg (by omega), if_pos h]
theorem cmp_eq {a b : Nat} (h : a = b) : cmp a b = 0 := by unfold cmp; rw [if_neg (by omega), if_neg (by omega)]

set_option maxHeartbeats 1000000 in
theorem order_walk (g1 g2 c d n : Nat) (la lb : List Nat) (w : World) (hn : n ≤ 1000) (hla : la.length = n) (hlb : lb.length = n) (hoa : Ok la) (hob : Ok lb) (hg1 : g1 < w.heap.size) (hg2 : g2 < w.heap.size)
    (hca : ∀ t, t < n → w.cell? ⟨g1, t, none⟩ = some (.int .u32 ((la.getD t 0 : Nat) : Int))) (hcb : ∀ t, t < n → w.cell? ⟨g2, t, none⟩ = some (.int .u32 ((lb.getD t 0 : Nat) : Int))) :
    Calls Tryz.prog 63 #[.slice (some ⟨g1, 0, none⟩) n c, .slice (some ⟨g2, 0, none⟩) n d] w fun e w' => e = .returned (.int .i64 (cmp (lv la) (lv lb))) ∧ Below w.heap.size w w' := by
  go_enter Tryz.func63, Tryz.ntmps63
  go_wp2
  go_loopw [5] (fun s wr => ∃ k : Nat, k ≤ n ∧ s = .int .i64 ((k : Int) - 1) ∧ (∀ j, k ≤ j → j < n → la.getD j 0 = lb.getD j 0) ∧ Below w.heap.size w wr) (fun s _ => (intOf s + 1).toNat)
  case atStart => exact ⟨n, Nat.le_refl _, rfl, fun j h1 h2 => by omega, Below.refl _ _⟩
  case round =>
    obtain ⟨k, hk, rfl, he, hb⟩ := hrel
    have HE : Hid (∀ j, k ≤ j → j < n → la.getD j 0 = lb.getD j 0) := he
    clear he
    rcases Nat.eq_zero_or_pos k with h0 | h0
    · subst h0
      have : la = lb := eq_of_all la lb (by omega) (fun j hj => HE.out j (Nat.zero_le _) (by omega))
      have HC : Hid (cmp (lv la) (lv lb) = 0) := cmp_eq (by rw [this])
      clear this
      go_wp2
      go_ret
      exact ⟨ret_int HC.out.symm, hb⟩
    · obtain ⟨m, rfl⟩ : ∃ m, k = m + 1 := ⟨k - 1, by omega⟩
      clear h0
      obtain ⟨x, y, hx, hy, hcx, hcy⟩ : ∃ x y : Nat, x = la.getD m 0 ∧ y = lb.getD m 0 ∧ wr.cell? ⟨g1, m, none⟩ = some (.int .u32 (x : Int)) ∧ wr.cell? ⟨g2, m, none⟩ = some (.int .u32 (y : Int)) :=
        ⟨_, _, rfl, rfl, (hb.cell (by exact hg1)).trans (hca m (by omega)), (hb.cell (by exact hg2)).trans (hcb m (by omega))⟩
      have hL1 : x < y → lv la < lv lb := fun h => lt_of_at la lb m hoa (by omega) (by omega) (fun j h1 h2 => HE.out j h1 (by omega)) (by rw [← hx, ← hy]; exact h)
      have hL2 : y < x → lv lb < lv la := fun h => lt_of_at lb la m hob (by omega) (by omega) (fun j h1 h2 => (HE.out j h1 (by omega)).symm) (by rw [← hx, ← hy]; exact h)
      have HX : Hid (x = la.getD m 0 ∧ y = lb.getD m 0) := ⟨hx, hy⟩
      have HL : Hid ((x < y → lv la < lv lb) ∧ (y < x → lv lb < lv la)) := ⟨hL1, hL2⟩
      clear hx hy hL1 hL2
      have i1 : ((m : Nat) : Int) < (n : Int) := by omega
      have e1 : ((m + 1 : Nat) : Int) - 1 = (m : Int) := by omega
      rw [e1]
      clear e1
      rcases Nat.lt_trichotomy x y with hxy | hxy | hxy
      · have hne : ((x : Int) != (y : Int)) = true := by simp; omega
        go_wp2
        go_quiet (fail)
        go_wp2
        go_quiet (fail)
        go_wp2
        go_ret
        exact ⟨ret_int (cmp_lt (HL.out.1 hxy)).symm, below_drewN (below_drewN hb _) _⟩
      · subst hxy
        go_wp2
        go_quiet (fail)
        go_wp2
        go_roundw
        case rel => exact ⟨m, by omega, by go_num, fun j h1 h2 => by rcases Nat.eq_or_lt_of_le h1 with h | h; (· rw [← h, ← HX.out.1, ← HX.out.2]); (· exact HE.out j h h2), below_drewN hb _⟩
        case measure => simp [intOf]
      · have hne : ((x : Int) != (y : Int)) = true := by simp; omega
        go_wp2
        go_quiet (fail)
        go_wp2
        go_quiet (fail)
        go_wp2
        go_ret
        exact ⟨ret_int (cmp_gt (HL.out.2 hxy)).symm, below_drewN (below_drewN hb _) _⟩

/-- 'order' of two numbers by their limbs. -/
theorem order_any (va vb : Value) (la lb : List Nat) (w : World) (ha : Lim w va la) (hb : Lim w vb lb) (hta : Tr la) (htb : Tr lb) :
    Calls Tryz.prog 63 #[va, vb] w fun e w' => e = .returned (.int .i64 (cmp (lv la) (lv lb))) ∧ Below w.heap.size w w' := by
  have hla := ha.len
  have hlb := hb.len
  have fin : ∀ (x : Int), cmp (lv la) (lv lb) = x → ∀ {e : Ending} {w' : World}, e = .returned (.int .i64 x) ∧ w' = w → e = .returned (.int .i64 (cmp (lv la) (lv lb))) ∧ Below w.heap.size w w' := by
    rintro x hx e w' ⟨rfl, rfl⟩
    exact ⟨by rw [hx], Below.refl _ _⟩
  have form : ∀ {v : Value} {ls : List Nat}, Lim w v ls → ∃ ao c, v = .slice ao ls.length c := by
    intro v ls h
    rcases h.cases with ⟨rfl, rfl⟩ | ⟨g, c, rfl, _⟩
    · exact ⟨_, _, rfl⟩
    · exact ⟨_, _, rfl⟩
  rcases Nat.lt_trichotomy la.length lb.length with h | h | h
  · obtain ⟨ao, c, rfl⟩ := form ha
    obtain ⟨bo, d, rfl⟩ := form hb
    exact (order_lt ao bo _ _ c d w hla hlb h).mono fun e w' he => fin _ (cmp_lt (lt_of_length la lb ha.ok htb h)) he
  · by_cases h0 : la.length = 0
    · obtain ⟨ao, c, rfl⟩ := form ha
      obtain ⟨bo, d, rfl⟩ := form hb
      have e1 : la = [] := List.eq_nil_of_length_eq_zero h0
      have e2 : lb = [] := List.eq_nil_of_length_eq_zero (by omega)
      subst e1 e2
      exact (order_zero ao bo c d w).mono fun e w' he => fin _ (cmp_eq rfl) he
    · rcases ha.cases with ⟨_, h1⟩ | ⟨g1, c, rfl, hg1, _, _, hc1⟩
      · rw [h1] at h0; exact absurd rfl h0
      · rcases hb.cases with ⟨_, h1⟩ | ⟨g2, d, rfl, hg2, _, _, hc2⟩
        · rw [h1] at h; exact absurd h h0
        · rw [← h] at hc2 ⊢
          exact order_walk g1 g2 c d la.length la lb w hla rfl h.symm ha.ok hb.ok hg1 hg2 hc1 hc2
  · obtain ⟨ao, c, rfl⟩ := form ha
    obtain ⟨bo, d, rfl⟩ := form hb
    exact (order_gt ao bo _ _ c d w hla hlb h).mono fun e w' he => fin _ (cmp_gt (lt_of_length lb la hb.ok hta h)) he

end Go.Proofs.YtbjjkfmdkmbcfaaGreat
