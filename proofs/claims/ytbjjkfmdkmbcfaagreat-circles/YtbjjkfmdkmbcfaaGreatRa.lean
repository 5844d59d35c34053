import Derived.Test.YtbjjkfmdkmbcfaaGreatOv
import Derived.Test.YtbjjkfmdkmbcfaaGreatLv
import Derived.BigQuiet
import Derived.Deep.QuietTactic
namespace Go.Proofs.YtbjjkfmdkmbcfaaGreat
open Go.RowKit
open PlLv

def lims (ls : List Nat) : List Value := ls.map fun (n : Nat) => Value.int .u32 (n : Int)

/-- The slice v reads as the limbs ls. -/
structure Lim (w : World) (v : Value) (ls : List Nat) : Prop where
  own : w.ownsRow 0 105 1 v ls.length (lims ls)
  ok : Ok ls
  len : ls.length ≤ 1000

theorem lims_at {ls : List Nat} {t : Nat} (h : t < ls.length) : (lims ls)[t]? = some (.int .u32 ((ls.getD t 0 : Nat) : Int)) := by
  rw [lims, List.getElem?_map, List.getD_eq_getElem?_getD, List.getElem?_eq_getElem h]; rfl

theorem Lim.cases {w : World} {v : Value} {ls : List Nat} (h : Lim w v ls) :
    (v = .slice none 0 0 ∧ ls = []) ∨ ∃ g c, v = .slice (some ⟨g, 0, none⟩) ls.length c ∧ g < w.heap.size ∧ ls.length ≤ c ∧ c ≤ maxLen ∧ ∀ t, t < ls.length → w.cell? ⟨g, t, none⟩ = some (.int .u32 ((ls.getD t 0 : Nat) : Int)) := by
  have ho := h.own
  rcases h.own.2 with ⟨rfl, h0⟩ | ⟨g, c, cur, rfl, hb, hg, hnc, hcm, hcs, htake⟩
  · exact .inl ⟨rfl, List.eq_nil_of_length_eq_zero h0⟩
  · refine .inr ⟨g, c, rfl, lt_of_row hg, hnc, hcm, fun t ht => ?_⟩
    rw [ho.cellAt t (by omega)]
    exact lims_at ht

theorem Lim.kept {w w' : World} {v : Value} {ls : List Nat} (h : Lim w v ls) (hb : Below w.heap.size w w') : Lim w' v ls := ⟨own_kept h.own hb, h.ok, h.len⟩

theorem Lim.cut {w : World} {g c : Nat} {ls : List Nat} (h : Lim w (.slice (some ⟨g, 0, none⟩) ls.length c) ls) (k : Nat) (hk : k ≤ ls.length) : Lim w (.slice (some ⟨g, 0, none⟩) k c) (ls.take k) := by
  have hl : (ls.take k).length = k := by rw [List.length_take]; omega
  refine ⟨?_, h.ok.take k, by have := h.len; omega⟩
  rcases h.own.2 with ⟨h0, _⟩ | ⟨g', c', cur, h0, hb, hg, hnc, hcm, hcs, htake⟩
  · simp at h0
  · simp only [Value.slice.injEq, Option.some.injEq, Addr.mk.injEq, and_true, true_and] at h0
    obtain ⟨rfl, rfl⟩ := h0
    rw [hl]
    refine ⟨by rw [lims, List.length_map, hl]; omega, .inr ⟨g, c, cur, rfl, hb, hg, by omega, hcm, hcs, ?_⟩⟩
    have : cur.toList.take (k * 1) = (cur.toList.take (ls.length * 1)).take k := by rw [List.take_take, Nat.mul_one, Nat.mul_one, Nat.min_eq_left hk]
    rw [this, htake, lims, lims, List.map_take]

set_option maxHeartbeats 400000 in
theorem trim_walk (g c : Nat) (ls : List Nat) (w : World) (hlen : ls.length ≤ 1000) (hc : ls.length ≤ c) (_hcm : c ≤ maxLen) (hcell : ∀ t, t < ls.length → w.cell? ⟨g, t, none⟩ = some (.int .u32 ((ls.getD t 0 : Nat) : Int))) :
    Calls Tryz.prog 61 #[.slice (some ⟨g, 0, none⟩) ls.length c] w fun e w' => ∃ k, k ≤ ls.length ∧ e = .returned (.slice (some ⟨g, 0, none⟩) k c) ∧ Tr (ls.take k) ∧ lv (ls.take k) = lv ls ∧ w' = w := by
  obtain ⟨n, hn⟩ : ∃ n, ls.length = n := ⟨_, rfl⟩
  rw [hn] at hcell hlen hc ⊢
  go_enter Tryz.func61, Tryz.ntmps61
  go_wp2
  go_loop [3] (fun s => ∃ k : Nat, k ≤ n ∧ s = .int .i64 k ∧ ∀ t, k ≤ t → ls.getD t 0 = 0) (fun s => (intOf s).toNat)
  case atStart => exact ⟨n, Nat.le_refl _, rfl, fun t ht => by rw [List.getD_eq_getElem?_getD, List.getElem?_eq_none (by omega)]; rfl⟩
  case round =>
    obtain ⟨k, hk, rfl, hz⟩ := hrel
    have HZ : Hid (∀ t, k ≤ t → ls.getD t 0 = 0) := hz
    clear hz
    rcases Nat.eq_zero_or_pos k with h0 | h0
    · subst h0
      go_wp2
      go_ret
      have e := lv_take_zero ls 0 HZ.out
      exact ⟨0, Nat.zero_le _, rfl, by rw [List.take_zero]; exact tr_nil, e, rfl⟩
    · obtain ⟨m, rfl⟩ : ∃ m, k = m + 1 := ⟨k - 1, by omega⟩
      obtain ⟨x, hx, hcx⟩ : ∃ x : Nat, x = ls.getD m 0 ∧ w.cell? ⟨g, m, none⟩ = some (.int .u32 (x : Int)) := ⟨_, rfl, hcell m (by omega)⟩
      have HX : Hid (x = ls.getD m 0) := hx
      clear hx h0
      by_cases hz : x = 0
      · subst hz
        go_wp2
        go_round
        case rel => exact ⟨m, by omega, by go_num, fun t ht => by rcases Nat.eq_or_lt_of_le ht with h | h; (· rw [← h]; exact HX.out.symm); (· exact HZ.out t h)⟩
        case measure => simp [intOf]
      · have hz' : ((x : Int) == 0) = false := by simpa using hz
        go_wp2
        go_ret
        have hl : (ls.take (m + 1)).length = m + 1 := by rw [List.length_take]; omega
        refine ⟨m + 1, hk, by simp, fun j hj => ?_, lv_take_zero ls (m + 1) HZ.out, rfl⟩
        have : j = m := by omega
        subst this
        rw [List.getD_eq_getElem?_getD, List.getElem?_take, if_pos (by omega), ← List.getD_eq_getElem?_getD, ← HX.out]
        exact hz

set_option maxHeartbeats 400000 in
theorem trim_nil (w : World) : Calls Tryz.prog 61 #[.slice none 0 0] w fun e w' => e = .returned (.slice none 0 0) ∧ w' = w := by
  go_enter Tryz.func61, Tryz.ntmps61
  go_wp2
  refine wp_loop_rounds 1 ?_
  rw [rounds_succ]
  go_wp2
  go_ret
  exact ⟨rfl, rfl⟩

/-- 'trim': the same number, with no nought at its end. -/
theorem trim_any (v : Value) (ls : List Nat) (w : World) (h : Lim w v ls) : Calls Tryz.prog 61 #[v] w fun e w' => ∃ v' ks, e = .returned v' ∧ Lim w v' ks ∧ Tr ks ∧ lv ks = lv ls ∧ w' = w := by
  rcases h.cases with ⟨rfl, rfl⟩ | ⟨g, c, rfl, hg, hnc, hcm, hcell⟩
  · refine (trim_nil w).mono ?_
    rintro e w' ⟨rfl, rfl⟩
    exact ⟨_, [], rfl, h, tr_nil, rfl, rfl⟩
  · refine (trim_walk g c ls w h.len hnc hcm hcell).mono ?_
    rintro e w' ⟨k, hk, rfl, h1, h2, rfl⟩
    exact ⟨_, ls.take k, rfl, h.cut k hk, h1, h2, rfl⟩

end Go.Proofs.YtbjjkfmdkmbcfaaGreat
