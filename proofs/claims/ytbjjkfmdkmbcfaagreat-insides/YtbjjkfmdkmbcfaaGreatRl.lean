import Derived.Test.YtbjjkfmdkmbcfaaGreatRk
namespace Go.Proofs.YtbjjkfmdkmbcfaaGreat
open Go.RowKit
open PlLv
open Ieee (double signed)

attribute [local go_sem ↓] Go.wp_at_zero Go.wp_at_succ

/-- A coordinate in the document's units. -/
def crd (b : Nat) : Int := valB b / 2 ^ 974

theorem okV_iff {b V : Nat} {_ng : Bool} (hm : mayB b = (decide (V < 2 ^ 1174) && decide (2 ^ 974 ∣ V))) : mayB b = true ↔ okV V := by
  rw [hm, Bool.and_eq_true, decide_eq_true_eq, decide_eq_true_eq]; rfl

theorem upU_cast (n : Nat) : ((upU n : Nat) : Int) = (n : Int) * 2 ^ 974 := PlRd.cast_two_pow n 974

theorem crd_of {b n : Nat} {ng : Bool} (h : valB b = if ng then -((upU n : Nat) : Int) else ((upU n : Nat) : Int)) : crd b = if ng then -(n : Int) else (n : Int) := by
  unfold crd
  rw [h, upU_cast]
  have hp := PlRd.two_pow_pos 974
  generalize (2 : Int) ^ 974 = E at *
  split
  · rw [← Int.neg_mul]; exact Int.mul_ediv_cancel _ (by omega)
  · exact Int.mul_ediv_cancel _ (by omega)

theorem valB_crd {b : Nat} (h : mayB b = true) : valB b = crd b * 2 ^ 974 := by
  obtain ⟨_, hd, _⟩ := co_mayB h
  unfold crd
  exact (Int.ediv_mul_cancel hd).symm

theorem number_any (b : Nat) (w : World) (hb : b < 2 ^ 64) :
    Calls Tryz.prog 34 #[.int .u64 b] w fun e w' => Below w.heap.size w w' ∧ ((mayB b = true ∧ ∃ neg v ls, e = .returned (.tuple #[.agg #[.bool neg, v], .bool true]) ∧ Bg w' neg v ls (crd b)) ∨
      (mayB b = false ∧ e = .returned (.tuple #[.agg #[.bool false, .slice none 0 0], .bool false]))) := by
  obtain ⟨e0, he⟩ : ∃ e0, e0 = b / 4503599627370496 % 2048 := ⟨_, rfl⟩
  obtain ⟨m0, hm⟩ : ∃ m0, m0 = b % 4503599627370496 := ⟨_, rfl⟩
  obtain ⟨ng, hn⟩ : ∃ ng, ng = decide (9223372036854775808 ≤ b) := ⟨_, rfl⟩
  obtain ⟨h0, h1, h2⟩ := read_parts b e0 m0 ng hb he hm hn
  have hbI : (b : Int) ≤ 18446744073709551615 := by omega
  have hml : m0 < 4503599627370496 := by omega
  have hel : e0 < 2048 := by omega
  have hn2 : decide ((9223372036854775808 : Int) ≤ (b : Int)) = ng := by rw [hn]; exact decide_eq_decide.2 (by omega)
  -- what the main walk gives, read as a coordinate
  have fin : ∀ {V M k : Nat} {p : Int}, double.read b = .number ng M p → (p + 1074).toNat = k → V = M * 2 ^ k → ∀ {e : Ending} {w' : World},
      (Below w.heap.size w w' ∧ ((okV V ∧ ∃ v ls, e = .returned (.tuple #[.agg #[.bool ng, v], .bool true]) ∧ Lim w' v ls ∧ Tr ls ∧ V = upU (lv ls) ∧ ls ≠ []) ∨ (¬ okV V ∧ e = .returned (.tuple #[.agg #[.bool false, .slice none 0 0], .bool false])))) →
      (Below w.heap.size w w' ∧ ((mayB b = true ∧ ∃ neg v ls, e = .returned (.tuple #[.agg #[.bool neg, v], .bool true]) ∧ Bg w' neg v ls (crd b)) ∨ (mayB b = false ∧ e = .returned (.tuple #[.agg #[.bool false, .slice none 0 0], .bool false])))) := by
    intro V M k p hr hk hV e w' h
    obtain ⟨hm1, hv1⟩ := mayB_mag hr hk hV
    have hiff := okV_iff (_ng := ng) hm1
    rcases h with ⟨hbel, ⟨hok, v, ls, rfl, hl, ht, hVe, hne⟩ | ⟨hno, rfl⟩⟩
    · refine ⟨hbel, .inl ⟨hiff.2 hok, ng, v, ls, rfl, hl, ht, ?_, fun _ => hne⟩⟩
      rw [hVe] at hv1
      exact crd_of hv1
    · refine ⟨hbel, .inr ⟨?_, rfl⟩⟩
      cases hmb : mayB b
      · rfl
      · exact absurd (hiff.1 hmb) hno
  by_cases e2 : e0 = 2047
  · have hno : mayB b = false := by
      unfold mayB
      rcases h2 e2 with ⟨s, h⟩ | ⟨s, t, h⟩ <;> rw [h]
    refine (number_inf b ng w hbI (by omega) hn.symm).mono ?_
    rintro e w' ⟨hbel, rfl⟩
    exact ⟨hbel, .inr ⟨hno, rfl⟩⟩
  · by_cases e3 : e0 = 0
    · by_cases e4 : m0 = 0
      · refine (number_zero b ng w hbI (by omega) (by omega) hn.symm).mono ?_
        rintro e w' ⟨hbel, rfl⟩
        have hr := h0 e3
        obtain ⟨hm1, hv1⟩ := mayB_mag (k := 0) (V := 0) hr (by omega) (by rw [e4])
        have hv0 : valB b = 0 := by rw [hv1]; split <;> rfl
        refine ⟨hbel, .inl ⟨?_, false, .slice none 0 0, [], rfl, ⟨World.ownsRow_nil _ _ _ _, fun l hl => by simp at hl, by simp⟩, tr_nil, ?_, fun h => by cases h⟩⟩
        · exact (okV_iff (_ng := ng) hm1).2 ⟨Nat.two_pow_pos 1174, Nat.dvd_zero _⟩
        · unfold crd; rw [hv0, Int.zero_ediv]; rfl
      · exact (number_main b e0 m0 _ ng w hbI (by omega) (by omega) hn2 hml (by omega) (.inl ⟨e3, by omega, rfl⟩)).mono fun e w' h => fin (k := 0) (h0 e3) (by omega) rfl h
    · exact (number_main b e0 m0 _ ng w hbI (by omega) (by omega) hn2 hml (by omega) (.inr ⟨by omega, rfl⟩)).mono fun e w' h => fin (k := e0 - 1) (h1 (by omega) (by omega)) (by omega) (by rw [Nat.add_comm m0]) h

end Go.Proofs.YtbjjkfmdkmbcfaaGreat
