import Derived.Test.YtbjjkfmdkmbcfaaGreatRh
namespace Go.Proofs.YtbjjkfmdkmbcfaaGreat
open Go.RowKit
open PlLv

attribute [local go_sem ↓] Go.wp_at_zero Go.wp_at_succ

theorem lv_zeros (q : Nat) : lv (List.replicate q 0) = 0 := by
  induction q with
  | zero => rfl
  | succ q ih => rw [List.replicate_succ, lv, ih]

theorem P_two (q : Nat) : P q = 2 ^ (32 * q) := by
  unfold P
  rw [Nat.pow_mul]

theorem lims_append (a b : List Nat) : lims (a ++ b) = lims a ++ lims b := by simp [lims]

theorem cells_three (w : World) (a b c : Value) (t : TypeId) : ∀ j u, [a, b, c][j]? = some u → (w.alloc (.cells #[a, b, c] t)).cell? ((⟨w.heap.size, 0, none⟩ : Addr).add j) = some u := by
  intro j u hu
  have hadd : ∀ j, (⟨w.heap.size, 0, none⟩ : Addr).add j = ⟨w.heap.size, j, none⟩ := fun j => by unfold Addr.add; split <;> simp_all
  rw [hadd, World.cell?_alloc_at _ _ _ _ rfl]
  match j, hu with
  | 0, hu => simpa using hu
  | 1, hu => simpa using hu
  | 2, hu => simpa using hu

theorem hlim_of {w1 : World} {B i L H1 m p j t : Nat} {v : Value} (h : w1.ownsRow B 105 1 v (i + 3) (lims (List.replicate i 0) ++ [.int .u32 ((L : Int) % 4294967296), .int .u32 (((H1 : Int) + (L : Int) / 4294967296) % 4294967296), .int .u32 (((H1 : Int) + (L : Int) / 4294967296) / 4294967296)]))
    (hV : L % 4294967296 + 4294967296 * ((H1 + L / 4294967296) % 4294967296) + 4294967296 * 4294967296 * ((H1 + L / 4294967296) / 4294967296) = m * p) (hp : p = 2 ^ j) (ht : t = 32 * i + j) (hi : i ≤ 31) (hb : (H1 + L / 4294967296) / 4294967296 < 4294967296) :
    Lim w1 v (List.replicate i 0 ++ [L % 4294967296, (H1 + L / 4294967296) % 4294967296, (H1 + L / 4294967296) / 4294967296]) ∧ lv (List.replicate i 0 ++ [L % 4294967296, (H1 + L / 4294967296) % 4294967296, (H1 + L / 4294967296) / 4294967296]) = m * 2 ^ t := by
  constructor
  · refine ⟨?_, ?_, by simp; omega⟩
    · have e : lims (List.replicate i 0 ++ [L % 4294967296, (H1 + L / 4294967296) % 4294967296, (H1 + L / 4294967296) / 4294967296]) = lims (List.replicate i 0) ++ [.int .u32 ((L : Int) % 4294967296), .int .u32 (((H1 : Int) + (L : Int) / 4294967296) % 4294967296), .int .u32 (((H1 : Int) + (L : Int) / 4294967296) / 4294967296)] := by
        rw [lims_append]; simp [lims]
      rw [e]
      have hl : (List.replicate i 0 ++ [L % 4294967296, (H1 + L / 4294967296) % 4294967296, (H1 + L / 4294967296) / 4294967296]).length = i + 3 := by simp
      rw [hl]
      exact own_base h (Nat.zero_le _)
    · refine Ok.append (fun l hl => ?_) (fun l hl => ?_)
      · simp at hl; omega
      · simp at hl; omega
  · rw [lv_append, lv_zeros, List.length_replicate, Nat.zero_add]
    have e : lv [L % 4294967296, (H1 + L / 4294967296) % 4294967296, (H1 + L / 4294967296) / 4294967296] = m * p := by
      rw [← hV]; simp only [lv]; omega
    rw [e, hp, ht, P_two, Nat.pow_add, Nat.mul_left_comm]

set_option maxHeartbeats 1000000 in
set_option maxRecDepth 100000 in
theorem doubled_any (m t : Nat) (w : World) (hm : m < 9007199254740992) (ht : t ≤ 1000) :
    Calls Tryz.prog 52 #[.int .u64 m, .int .i64 t] w fun e w' => ∃ v' ks, e = .returned v' ∧ Lim w' v' ks ∧ Tr ks ∧ lv ks = m * 2 ^ t ∧ Below w.heap.size w w' := by
  obtain ⟨i0, hi0, hz0, hz1, hz2⟩ := info_parts info105
  obtain ⟨q, hq⟩ : ∃ q, q = t / 32 := ⟨_, rfl⟩
  obtain ⟨r, hr⟩ : ∃ r, r = t % 32 := ⟨_, rfl⟩
  have eq1 : ((t : Int)) / 32 = (q : Int) := by omega
  have eq2 : ((t : Int)) % 32 = (r : Int) := by omega
  have hql : q ≤ 31 := by omega
  have hrl : r < 32 := by omega
  have HT : Hid (t = 32 * q + r) := by unfold Hid; omega
  clear hq hr
  go_enter Tryz.func52, Tryz.ntmps52
  go_wp2
  go_loopw [5, 6] (fun so si wr => ∃ i : Nat, si = .int .i64 i ∧ i ≤ q ∧ wr.ownsRow w.heap.size 105 1 so i (lims (List.replicate i 0)) ∧ Below w.heap.size w wr) (fun _ si _ => q - (intOf si).toNat)
  case atStart => exact ⟨0, rfl, Nat.zero_le _, World.ownsRow_nil _ _ _ _, Below.refl _ _⟩
  case round =>
    obtain ⟨i, rfl, hi, hown, hbel⟩ := hrel
    have hsz := hbel.size
    have HO : Hid (∀ o, (wr.alloc o).ownsRow w.heap.size 105 1 _ i (lims (List.replicate i 0))) := fun o => hown.alloc o
    by_cases hlt : i < q
    · go_wp2_with (at_builtin; refine wpList_append_own _ rfl _ _ 51 rfl w.heap.size 105 i0 (.int .u32 0) 1 4 Tryz.underlying51 hi0 hz0 hz1 hz2 rfl (by decide) _ i (lims (List.replicate i 0)) rfl (HO.out _) ⟨_, 0, none⟩ 1 1 [.int .u32 0] rfl rfl (cell_one_new _ _ _) (by intro u hu; simp at hu; subst hu; rfl) (by unfold maxLen; omega) (by omega) (by simp; omega) ?_; intro v' w1 h1 h2 _)
      have e : lims (List.replicate (i + 1) 0) = lims (List.replicate i 0) ++ [.int .u32 0] := by rw [List.replicate_succ', lims_append]; rfl
      have hB : Below w.heap.size w w1 := (hbel.alloc hbel.size _).grown h2 (by simp; omega) (fun k hk => (hown.lt k hk).1)
      rw [← e] at h1
      clear h2 hown HO e
      go_roundw
      case rel => exact ⟨i + 1, by go_num, by omega, h1, hB⟩
      case measure => simp [intOf]; omega
    · have hiq : i = q := by omega
      subst hiq
      go_wp2
      go_loop [8, 9] (fun sp si => ∃ j p : Nat, si = .int .i64 j ∧ sp = .int .u64 p ∧ j ≤ r ∧ p = 2 ^ j) (fun _ si => r - (intOf si).toNat)
      case atStart => exact ⟨0, 1, rfl, rfl, Nat.zero_le _, rfl⟩
      case round =>
        obtain ⟨j, p, rfl, rfl, hj, hp⟩ := hrel
        have hpl : p ≤ 2147483648 := by rw [hp]; exact Nat.pow_le_pow_right (n := 2) (by decide) (show j ≤ 31 by omega)
        have HP : Hid (p = 2 ^ j) := hp
        clear hp
        by_cases hjr : j < r
        · go_wp2
          go_round
          case rel => exact ⟨j + 1, 2 * p, by go_num, by go_num, by omega, by rw [HP.out, Nat.pow_succ, Nat.mul_comm]⟩
          case measure => simp [intOf]; omega
        · have hjr' : j = r := by omega
          subst hjr'
          obtain ⟨a, ea⟩ : ∃ a, a = m % 4294967296 := ⟨_, rfl⟩
          obtain ⟨b, eb⟩ : ∃ b, b = m / 4294967296 := ⟨_, rfl⟩
          obtain ⟨L, eL⟩ : ∃ L, L = a * p := ⟨_, rfl⟩
          obtain ⟨H1, eH⟩ : ∃ H1, H1 = b * p := ⟨_, rfl⟩
          have bL : L ≤ 4294967295 * 2147483648 := by rw [eL]; exact Nat.mul_le_mul (by omega) hpl
          have bH : H1 ≤ 2097151 * 2147483648 := by rw [eH]; exact Nat.mul_le_mul (by omega) hpl
          have HV : Hid (L % 4294967296 + 4294967296 * ((H1 + L / 4294967296) % 4294967296) + 4294967296 * 4294967296 * ((H1 + L / 4294967296) / 4294967296) = m * p) := by
            have e1 : m * p = L + 4294967296 * H1 := by
              rw [eL, eH, ← Nat.mul_assoc, ← Nat.add_mul, ea, eb]; congr 1; omega
            unfold Hid; omega
          have r1 : (m : Int) % 4294967296 = (a : Int) := by omega
          have r2 : (m : Int) / 4294967296 = (b : Int) := by omega
          have r3 : (a : Int) * (p : Int) = (L : Int) := by rw [eL]; simp
          have r4 : (b : Int) * (p : Int) = (H1 : Int) := by rw [eH]; simp
          clear ea eb eL eH
          go_wp2_with (first | (at_builtin; go_must (refine wpList_append_own _ rfl _ _ 51 rfl w.heap.size 105 i0 (.int .u32 0) 1 4 Tryz.underlying51 hi0 hz0 hz1 hz2 rfl (by decide) _ i (lims (List.replicate i 0)) rfl (HO.out _) ⟨_, 0, none⟩ 3 3 [.int .u32 ((L : Int) % 4294967296), .int .u32 (((H1 : Int) + (L : Int) / 4294967296) % 4294967296), .int .u32 (((H1 : Int) + (L : Int) / 4294967296) / 4294967296)] rfl rfl (cells_three _ _ _ _ _) (by intro u hu; simp at hu; rcases hu with rfl | rfl | rfl <;> rfl) (by unfold maxLen; omega) (by omega) (by simp; omega) ?_; intro v' w1 h1 h2 _; have hlim := hlim_of h1 HV.out HP.out HT.out (by omega) (by omega); have hB : Below w.heap.size w w1 := (hbel.alloc hbel.size _).grown h2 (by simp; omega) (fun k hk => (hown.lt k hk).1))) | (go_at_call 61; go_must (refine (trim_any _ _ _ hlim.1).mono ?_; rintro e w2 ⟨v2, ks, rfl, hl2, ht2, he2, rfl⟩)))
          go_ret
          exact ⟨v2, ks, rfl, hl2, ht2, he2.trans hlim.2, hB⟩

end Go.Proofs.YtbjjkfmdkmbcfaaGreat
