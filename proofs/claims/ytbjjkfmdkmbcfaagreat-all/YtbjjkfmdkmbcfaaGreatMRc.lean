import Derived.Test.YtbjjkfmdkmbcfaaGreatMRb
namespace Go.Proofs.YtbjjkfmdkmbcfaaGreat
open Go.RowKit
open PlLv

theorem info105 : (Tryz.prog.info? 105).map (fun i => (i.zero, i.size, i.bytes)) = some (some (.int .u32 0), 1, 4) := by kernel_rfl

theorem getD_out {ls : List Nat} {i : Nat} (h : ¬ i < ls.length) : ls.getD i 0 = 0 := by
  rw [List.getD_eq_getElem?_getD, List.getElem?_eq_none (by omega)]; rfl

/-- What stands at each step of 'limbs' (a sum). -/
structure LRel (w wr : World) (la lb : List Nat) (M : Nat) (v : Value) (i cr : Nat) (ks : List Nat) : Prop where
  len : ks.length = i
  ok : Ok ks
  own : wr.ownsRow w.heap.size 105 1 v i (lims ks)
  below : Below w.heap.size w wr
  le : i ≤ M + 1
  crle : cr ≤ 1
  last : i = M + 1 → cr = 0
  eq : lv ks + P i * cr = lv (la.take i) + lv (lb.take i)

theorem LRel.step {w wr w1 : World} {la lb : List Nat} {M : Nat} {v v' : Value} {i cr cr' d : Nat} {ks : List Nat} {x : Int} {o : Obj} (R : LRel w wr la lb M v i cr ks) (hM : la.length ≤ M ∧ lb.length ≤ M) (hi : i ≤ M) (hoa : Ok la) (hob : Ok lb)
    (hd : d + 4294967296 * cr' = cr + la.getD i 0 + lb.getD i 0) (hdl : d < 4294967296) (hx : x = (d : Int)) (h1 : w1.ownsRow w.heap.size 105 1 v' (i + 1) (lims ks ++ [.int .u32 x])) (h2 : (wr.alloc o).grownBy w1 v.ownBlock) : LRel w w1 la lb M v' (i + 1) cr' (ks ++ [d]) := by
  have hA := hoa.at i
  have hB := hob.at i
  have hc := R.crle
  refine ⟨by rw [List.length_append, R.len]; rfl, R.ok.append (fun l hl => by simp at hl; rw [hl]; exact hdl), ?_, ?_, by omega, by omega, fun h => ?_, ?_⟩
  · have : lims (ks ++ [d]) = lims ks ++ [.int .u32 x] := by rw [hx]; simp [lims]
    rw [this]; exact h1
  · refine (R.below.alloc R.below.size o).grown h2 (by have := R.below.size; simp; omega) (fun k hk => (R.own.lt k hk).1)
  · have e1 : la.getD i 0 = 0 := getD_out (by omega)
    have e2 : lb.getD i 0 = 0 := getD_out (by omega)
    omega
  · have he := R.eq
    rw [lv_snoc, R.len, P_succ, lv_take_succ, lv_take_succ]
    have : P i * (d + 4294967296 * cr') = P i * (cr + la.getD i 0 + lb.getD i 0) := by rw [hd]
    rw [Nat.mul_add, Nat.mul_add, Nat.mul_add] at this
    have e3 : 4294967296 * P i * cr' = P i * (4294967296 * cr') := by rw [Nat.mul_comm 4294967296, Nat.mul_assoc]
    rw [e3]
    omega

theorem own_base {w : World} {b b' : Nat} {e : TypeId} {size : Nat} {v : Value} {n : Nat} {xs : List Value} (h : w.ownsRow b e size v n xs) (hb : b' ≤ b) : w.ownsRow b' e size v n xs := by
  refine ⟨h.1, ?_⟩
  rcases h.2 with hn | ⟨g, c, cur, rfl, h1, rest⟩
  · exact .inl hn
  · exact .inr ⟨g, c, cur, rfl, Nat.le_trans hb h1, rest⟩

/-- What stands at each step of 'limbs' (a difference). -/
structure DRel (w wr : World) (la lb : List Nat) (M : Nat) (v : Value) (i cr : Nat) (ks : List Nat) : Prop where
  len : ks.length = i
  ok : Ok ks
  own : wr.ownsRow w.heap.size 105 1 v i (lims ks)
  below : Below w.heap.size w wr
  le : i ≤ M
  crle : cr ≤ 1
  eq : lv ks + lv (lb.take i) = lv (la.take i) + P i * cr

theorem DRel.step {w wr w1 : World} {la lb : List Nat} {M : Nat} {v v' : Value} {i cr cr' d : Nat} {ks : List Nat} {x : Int} {o : Obj} (R : DRel w wr la lb M v i cr ks) (hi : i < M) (hcr : cr' ≤ 1)
    (hd : d + cr + lb.getD i 0 = la.getD i 0 + 4294967296 * cr') (hdl : d < 4294967296) (hx : x = (d : Int)) (h1 : w1.ownsRow w.heap.size 105 1 v' (i + 1) (lims ks ++ [.int .u32 x])) (h2 : (wr.alloc o).grownBy w1 v.ownBlock) : DRel w w1 la lb M v' (i + 1) cr' (ks ++ [d]) := by
  refine ⟨by rw [List.length_append, R.len]; rfl, R.ok.append (fun l hl => by simp at hl; rw [hl]; exact hdl), ?_, ?_, by omega, hcr, ?_⟩
  · have : lims (ks ++ [d]) = lims ks ++ [.int .u32 x] := by rw [hx]; simp [lims]
    rw [this]; exact h1
  · refine (R.below.alloc R.below.size o).grown h2 (by have := R.below.size; simp; omega) (fun k hk => (R.own.lt k hk).1)
  · have he := R.eq
    rw [lv_snoc, R.len, P_succ, lv_take_succ, lv_take_succ]
    have : P i * (d + cr + lb.getD i 0) = P i * (la.getD i 0 + 4294967296 * cr') := by rw [hd]
    rw [Nat.mul_add, Nat.mul_add, Nat.mul_add] at this
    have e3 : 4294967296 * P i * cr' = P i * (4294967296 * cr') := by rw [Nat.mul_comm 4294967296, Nat.mul_assoc]
    rw [e3]
    omega

theorem DRel.done {w wr : World} {la lb : List Nat} {M : Nat} {v : Value} {i cr : Nat} {ks : List Nat} (R : DRel w wr la lb M v i cr ks) (h1 : la.length ≤ i) (h2 : lb.length ≤ i) (hle : lv lb ≤ lv la) : cr = 0 ∧ lv ks = lv la - lv lb := by
  have he := R.eq
  have hl := lv_lt ks R.ok
  have hc := R.crle
  rw [List.take_of_length_le h1, List.take_of_length_le h2] at he
  rw [R.len] at hl
  rcases Nat.eq_zero_or_pos cr with h | h
  · subst h; rw [Nat.mul_zero] at he; exact ⟨rfl, by omega⟩
  · have : cr = 1 := by omega
    subst this
    rw [Nat.mul_one] at he
    omega

set_option maxHeartbeats 4000000 in
set_option maxRecDepth 100000 in
theorem limbs_sum (ao bo : Option Addr) (n m c d : Nat) (la lb : List Nat) (w : World) (hn : la.length = n) (hm : lb.length = m) (hnl2 : n + 1 ≤ 1000) (hml2 : m + 1 ≤ 1000) (hoa : Ok la) (hob : Ok lb)
    (hca : ∀ t, t < n → ∃ g, ao = some ⟨g, 0, none⟩ ∧ g < w.heap.size ∧ w.cell? ⟨g, t, none⟩ = some (.int .u32 ((la.getD t 0 : Nat) : Int))) (hcb : ∀ t, t < m → ∃ g, bo = some ⟨g, 0, none⟩ ∧ g < w.heap.size ∧ w.cell? ⟨g, t, none⟩ = some (.int .u32 ((lb.getD t 0 : Nat) : Int))) :
    Calls Tryz.prog 62 #[.slice ao n c, .slice bo m d, .bool false] w fun e w' => ∃ v' ks, e = .returned v' ∧ Lim w' v' ks ∧ Tr ks ∧ lv ks = lv la + lv lb ∧ Below w.heap.size w w' := by
  obtain ⟨i0, hi0, hz0, hz1, hz2⟩ := info_parts info105
  obtain ⟨M, hM⟩ : ∃ M, M = max n m := ⟨_, rfl⟩
  have hM1 : n ≤ M ∧ m ≤ M ∧ M + 1 ≤ 1000 := by omega
  have hM2 : M = n ∨ M = m := by omega
  obtain ⟨hMn, hMm, hMl⟩ := hM1
  clear hM
  have R0 : LRel w w la lb M (.slice none 0 0) 0 0 [] := ⟨rfl, fun l hl => by simp at hl, World.ownsRow_nil _ _ _ _, Below.refl _ _, by omega, by omega, fun h => by omega, by simp [lv]⟩
  go_enter Tryz.func62, Tryz.ntmps62
  go_wp2
  go_loopw [7, 8, 9] (fun so sc si wr => ∃ (i cr : Nat) (ks : List Nat), si = .int .i64 i ∧ sc = .int .i64 cr ∧ LRel w wr la lb M so i cr ks) (fun _ _ si _ => M + 2 - (intOf si).toNat)
  case atStart => exact ⟨0, 0, [], rfl, rfl, R0⟩
  case round =>
    obtain ⟨i, cr, ks, rfl, rfl, R⟩ := hrel
    clear R0
    have hile := R.le
    have hcr := R.crle
    have hlast := R.last
    have hown := R.own
    have hsz := R.below.size
    have HO : Hid (∀ o, (wr.alloc o).ownsRow w.heap.size 105 1 _ i (lims ks)) := fun o => hown.alloc o
    obtain ⟨A, hA⟩ : ∃ A, A = la.getD i 0 := ⟨_, rfl⟩
    obtain ⟨B, hB⟩ : ∃ B, B = lb.getD i 0 := ⟨_, rfl⟩
    have hAl : A < 4294967296 := by rw [hA]; exact hoa.at i
    have hBl : B < 4294967296 := by rw [hB]; exact hob.at i
    have HAB : Hid (A = la.getD i 0 ∧ B = lb.getD i 0) := ⟨hA, hB⟩
    by_cases hin : i < n
    · obtain ⟨g1, rfl, hg1, hc1⟩ := hca i hin
      have hc1' : wr.cell? ⟨g1, i, none⟩ = some (.int .u32 (A : Int)) := by rw [hA]; exact (R.below.cell (by exact hg1)).trans hc1
      clear hc1 hA
      by_cases him : i < m
      · obtain ⟨g2, rfl, hg2, hc2⟩ := hcb i him
        have hc2' : wr.cell? ⟨g2, i, none⟩ = some (.int .u32 (B : Int)) := by rw [hB]; exact (R.below.cell (by exact hg2)).trans hc2
        clear hc2 hB
        by_cases hov : cr + A + B < 4294967296
        · have hov' : (cr : Int) + (A : Int) + (B : Int) ≤ 4294967295 := by omega
          go_wp2_with (at_builtin; refine wpList_append_own _ rfl _ _ 51 rfl w.heap.size 105 i0 (.int .u32 0) 1 4 Tryz.underlying51 hi0 hz0 hz1 hz2 rfl (by decide) _ i (lims ks) rfl (HO.out _) ⟨_, 0, none⟩ 1 1 [.int .u32 ((cr : Int) + (A : Int) + (B : Int))] rfl rfl (cell_one_new _ _ _) (by intro u hu; simp at hu; subst hu; rfl) (by unfold maxLen; omega) (by omega) (by simp; omega) ?_; intro v' w1 h1 h2 _)
          have R1 := R.step (d := cr + A + B) (cr' := 0) ⟨by omega, by omega⟩ (by omega) hoa hob (by have q1 := HAB.out.1; have q2 := HAB.out.2; omega) (by omega) (by omega) h1 h2
          clear R hown HO h1 h2
          go_roundw
          case rel => exact ⟨i + 1, 0, _, by go_num, rfl, R1⟩
          case measure => simp [intOf]; omega
        · have hov' : ¬ (cr : Int) + (A : Int) + (B : Int) ≤ 4294967295 := by omega
          have hov2 : 4294967295 < (cr : Int) + (A : Int) + (B : Int) := by omega
          go_wp2_with (at_builtin; refine wpList_append_own _ rfl _ _ 51 rfl w.heap.size 105 i0 (.int .u32 0) 1 4 Tryz.underlying51 hi0 hz0 hz1 hz2 rfl (by decide) _ i (lims ks) rfl (HO.out _) ⟨_, 0, none⟩ 1 1 [.int .u32 ((cr : Int) + (A : Int) + (B : Int) - 4294967296)] rfl rfl (cell_one_new _ _ _) (by intro u hu; simp at hu; subst hu; rfl) (by unfold maxLen; omega) (by omega) (by simp; omega) ?_; intro v' w1 h1 h2 _)
          have R1 := R.step (d := cr + A + B - 4294967296) (cr' := 1) ⟨by omega, by omega⟩ (by omega) hoa hob (by have q1 := HAB.out.1; have q2 := HAB.out.2; omega) (by omega) (by omega) h1 h2
          clear R hown HO h1 h2
          go_roundw
          case rel => exact ⟨i + 1, 1, _, by go_num, rfl, R1⟩
          case measure => simp [intOf]; omega
      · have hB0 : B = 0 := by rw [hB]; exact getD_out (by omega)
        subst hB0
        clear hB
        by_cases hov : cr + A < 4294967296
        · have hov' : (cr : Int) + (A : Int) ≤ 4294967295 := by omega
          go_wp2_with (at_builtin; refine wpList_append_own _ rfl _ _ 51 rfl w.heap.size 105 i0 (.int .u32 0) 1 4 Tryz.underlying51 hi0 hz0 hz1 hz2 rfl (by decide) _ i (lims ks) rfl (HO.out _) ⟨_, 0, none⟩ 1 1 [.int .u32 ((cr : Int) + (A : Int))] rfl rfl (cell_one_new _ _ _) (by intro u hu; simp at hu; subst hu; rfl) (by unfold maxLen; omega) (by omega) (by simp; omega) ?_; intro v' w1 h1 h2 _)
          have R1 := R.step (d := cr + A) (cr' := 0) ⟨by omega, by omega⟩ (by omega) hoa hob (by have q1 := HAB.out.1; have q2 := HAB.out.2; omega) (by omega) (by omega) h1 h2
          clear R hown HO h1 h2
          go_roundw
          case rel => exact ⟨i + 1, 0, _, by go_num, rfl, R1⟩
          case measure => simp [intOf]; omega
        · have hov' : ¬ (cr : Int) + (A : Int) ≤ 4294967295 := by omega
          have hov2 : 4294967295 < (cr : Int) + (A : Int) := by omega
          go_wp2_with (at_builtin; refine wpList_append_own _ rfl _ _ 51 rfl w.heap.size 105 i0 (.int .u32 0) 1 4 Tryz.underlying51 hi0 hz0 hz1 hz2 rfl (by decide) _ i (lims ks) rfl (HO.out _) ⟨_, 0, none⟩ 1 1 [.int .u32 ((cr : Int) + (A : Int) - 4294967296)] rfl rfl (cell_one_new _ _ _) (by intro u hu; simp at hu; subst hu; rfl) (by unfold maxLen; omega) (by omega) (by simp; omega) ?_; intro v' w1 h1 h2 _)
          have R1 := R.step (d := cr + A - 4294967296) (cr' := 1) ⟨by omega, by omega⟩ (by omega) hoa hob (by have q1 := HAB.out.1; have q2 := HAB.out.2; omega) (by omega) (by omega) h1 h2
          clear R hown HO h1 h2
          go_roundw
          case rel => exact ⟨i + 1, 1, _, by go_num, rfl, R1⟩
          case measure => simp [intOf]; omega
    · have hA0 : A = 0 := by rw [hA]; exact getD_out (by omega)
      subst hA0
      clear hA
      by_cases him : i < m
      · obtain ⟨g2, rfl, hg2, hc2⟩ := hcb i him
        have hc2' : wr.cell? ⟨g2, i, none⟩ = some (.int .u32 (B : Int)) := by rw [hB]; exact (R.below.cell (by exact hg2)).trans hc2
        clear hc2 hB
        by_cases hov : cr + B < 4294967296
        · have hov' : (cr : Int) + (B : Int) ≤ 4294967295 := by omega
          go_wp2_with (at_builtin; refine wpList_append_own _ rfl _ _ 51 rfl w.heap.size 105 i0 (.int .u32 0) 1 4 Tryz.underlying51 hi0 hz0 hz1 hz2 rfl (by decide) _ i (lims ks) rfl (HO.out _) ⟨_, 0, none⟩ 1 1 [.int .u32 ((cr : Int) + (B : Int))] rfl rfl (cell_one_new _ _ _) (by intro u hu; simp at hu; subst hu; rfl) (by unfold maxLen; omega) (by omega) (by simp; omega) ?_; intro v' w1 h1 h2 _)
          have R1 := R.step (d := cr + B) (cr' := 0) ⟨by omega, by omega⟩ (by omega) hoa hob (by have q1 := HAB.out.1; have q2 := HAB.out.2; omega) (by omega) (by omega) h1 h2
          clear R hown HO h1 h2
          go_roundw
          case rel => exact ⟨i + 1, 0, _, by go_num, rfl, R1⟩
          case measure => simp [intOf]; omega
        · have hov' : ¬ (cr : Int) + (B : Int) ≤ 4294967295 := by omega
          have hov2 : 4294967295 < (cr : Int) + (B : Int) := by omega
          go_wp2_with (at_builtin; refine wpList_append_own _ rfl _ _ 51 rfl w.heap.size 105 i0 (.int .u32 0) 1 4 Tryz.underlying51 hi0 hz0 hz1 hz2 rfl (by decide) _ i (lims ks) rfl (HO.out _) ⟨_, 0, none⟩ 1 1 [.int .u32 ((cr : Int) + (B : Int) - 4294967296)] rfl rfl (cell_one_new _ _ _) (by intro u hu; simp at hu; subst hu; rfl) (by unfold maxLen; omega) (by omega) (by simp; omega) ?_; intro v' w1 h1 h2 _)
          have R1 := R.step (d := cr + B - 4294967296) (cr' := 1) ⟨by omega, by omega⟩ (by omega) hoa hob (by have q1 := HAB.out.1; have q2 := HAB.out.2; omega) (by omega) (by omega) h1 h2
          clear R hown HO h1 h2
          go_roundw
          case rel => exact ⟨i + 1, 1, _, by go_num, rfl, R1⟩
          case measure => simp [intOf]; omega
      · have hB0 : B = 0 := by rw [hB]; exact getD_out (by omega)
        subst hB0
        clear hB
        by_cases hc0 : cr = 0
        · subst hc0
          have hlim : Lim wr _ ks := ⟨by rw [R.len]; exact own_base hown (Nat.zero_le _), R.ok, by rw [R.len]; omega⟩
          have ht1 : la.take i = la := List.take_of_length_le (by omega)
          have ht2 : lb.take i = lb := List.take_of_length_le (by omega)
          have he := R.eq
          rw [ht1, ht2, Nat.mul_zero, Nat.add_zero] at he
          have HE : Hid (lv ks = lv la + lv lb) := he
          clear ht1 ht2 he
          have hbel := R.below
          clear R hown HO
          go_wp2_with (go_at_call 61; refine (trim_any _ ks _ hlim).mono ?_; rintro e w' ⟨v', ks', rfl, hl', ht', hv', rfl⟩)
          go_ret
          exact ⟨v', ks', rfl, hl', ht', hv'.trans HE.out, hbel⟩
        · have hc1 : cr = 1 := by omega
          subst hc1
          have hiM : i ≤ M := by omega
          go_wp2_with (at_builtin; refine wpList_append_own _ rfl _ _ 51 rfl w.heap.size 105 i0 (.int .u32 0) 1 4 Tryz.underlying51 hi0 hz0 hz1 hz2 rfl (by decide) _ i (lims ks) rfl (HO.out _) ⟨_, 0, none⟩ 1 1 [.int .u32 (1)] rfl rfl (cell_one_new _ _ _) (by intro u hu; simp at hu; subst hu; rfl) (by unfold maxLen; omega) (by omega) (by simp; omega) ?_; intro v' w1 h1 h2 _)
          have R1 := R.step (d := 1) (cr' := 0) ⟨by omega, by omega⟩ (by omega) hoa hob (by have q1 := HAB.out.1; have q2 := HAB.out.2; omega) (by omega) (by omega) h1 h2
          clear R hown HO h1 h2
          go_roundw
          case rel => exact ⟨i + 1, 0, _, by go_num, rfl, R1⟩
          case measure => simp [intOf]; omega

set_option maxHeartbeats 4000000 in
set_option maxRecDepth 100000 in
theorem limbs_less (ao bo : Option Addr) (n m c d : Nat) (la lb : List Nat) (w : World) (hn : la.length = n) (hm : lb.length = m) (hnl2 : n + 1 ≤ 1000) (hml2 : m + 1 ≤ 1000) (hoa : Ok la) (hob : Ok lb) (hle : lv lb ≤ lv la)
    (hca : ∀ t, t < n → ∃ g, ao = some ⟨g, 0, none⟩ ∧ g < w.heap.size ∧ w.cell? ⟨g, t, none⟩ = some (.int .u32 ((la.getD t 0 : Nat) : Int))) (hcb : ∀ t, t < m → ∃ g, bo = some ⟨g, 0, none⟩ ∧ g < w.heap.size ∧ w.cell? ⟨g, t, none⟩ = some (.int .u32 ((lb.getD t 0 : Nat) : Int))) :
    Calls Tryz.prog 62 #[.slice ao n c, .slice bo m d, .bool true] w fun e w' => ∃ v' ks, e = .returned v' ∧ Lim w' v' ks ∧ Tr ks ∧ lv ks = lv la - lv lb ∧ Below w.heap.size w w' := by
  obtain ⟨i0, hi0, hz0, hz1, hz2⟩ := info_parts info105
  obtain ⟨M, hM⟩ : ∃ M, M = max n m := ⟨_, rfl⟩
  have hM1 : n ≤ M ∧ m ≤ M ∧ M + 1 ≤ 1000 := by omega
  have hM2 : M = n ∨ M = m := by omega
  obtain ⟨hMn, hMm, hMl⟩ := hM1
  clear hM
  have R0 : DRel w w la lb M (.slice none 0 0) 0 0 [] := ⟨rfl, fun l hl => by simp at hl, World.ownsRow_nil _ _ _ _, Below.refl _ _, by omega, by omega, by simp [lv]⟩
  go_enter Tryz.func62, Tryz.ntmps62
  go_wp2
  go_loopw [7, 8, 9] (fun so sc si wr => ∃ (i cr : Nat) (ks : List Nat), si = .int .i64 i ∧ sc = .int .i64 (-(cr : Int)) ∧ DRel w wr la lb M so i cr ks) (fun _ _ si _ => M + 2 - (intOf si).toNat)
  case atStart => exact ⟨0, 0, [], rfl, rfl, R0⟩
  case round =>
    obtain ⟨i, cr, ks, rfl, rfl, R⟩ := hrel
    clear R0
    have hile := R.le
    have hcr := R.crle
    have hown := R.own
    have hsz := R.below.size
    have HO : Hid (∀ o, (wr.alloc o).ownsRow w.heap.size 105 1 _ i (lims ks)) := fun o => hown.alloc o
    obtain ⟨A, hA⟩ : ∃ A, A = la.getD i 0 := ⟨_, rfl⟩
    obtain ⟨B, hB⟩ : ∃ B, B = lb.getD i 0 := ⟨_, rfl⟩
    have hAl : A < 4294967296 := by rw [hA]; exact hoa.at i
    have hBl : B < 4294967296 := by rw [hB]; exact hob.at i
    have HAB : Hid (A = la.getD i 0 ∧ B = lb.getD i 0) := ⟨hA, hB⟩
    by_cases hin : i < n
    · obtain ⟨g1, rfl, hg1, hc1⟩ := hca i hin
      have hc1' : wr.cell? ⟨g1, i, none⟩ = some (.int .u32 (A : Int)) := by rw [hA]; exact (R.below.cell (by exact hg1)).trans hc1
      clear hc1 hA
      by_cases him : i < m
      · obtain ⟨g2, rfl, hg2, hc2⟩ := hcb i him
        have hc2' : wr.cell? ⟨g2, i, none⟩ = some (.int .u32 (B : Int)) := by rw [hB]; exact (R.below.cell (by exact hg2)).trans hc2
        clear hc2 hB
        by_cases hov : cr + B ≤ A
        · have hov' : 0 ≤ -(cr : Int) + (A : Int) - (B : Int) := by omega
          go_wp2_with (at_builtin; refine wpList_append_own _ rfl _ _ 51 rfl w.heap.size 105 i0 (.int .u32 0) 1 4 Tryz.underlying51 hi0 hz0 hz1 hz2 rfl (by decide) _ i (lims ks) rfl (HO.out _) ⟨_, 0, none⟩ 1 1 [.int .u32 (-(cr : Int) + (A : Int) - (B : Int))] rfl rfl (cell_one_new _ _ _) (by intro u hu; simp at hu; subst hu; rfl) (by unfold maxLen; omega) (by omega) (by simp; omega) ?_; intro v' w1 h1 h2 _)
          have R1 := R.step (d := A - (cr + B)) (cr' := 0) (by omega) (by omega) (by have q1 := HAB.out.1; have q2 := HAB.out.2; omega) (by omega) (by omega) h1 h2
          clear R hown HO h1 h2
          go_roundw
          case rel => exact ⟨i + 1, 0, _, by go_num, rfl, R1⟩
          case measure => simp [intOf]; omega
        · have hov' : -(cr : Int) + (A : Int) - (B : Int) < 0 := by omega
          go_wp2_with (at_builtin; refine wpList_append_own _ rfl _ _ 51 rfl w.heap.size 105 i0 (.int .u32 0) 1 4 Tryz.underlying51 hi0 hz0 hz1 hz2 rfl (by decide) _ i (lims ks) rfl (HO.out _) ⟨_, 0, none⟩ 1 1 [.int .u32 (-(cr : Int) + (A : Int) - (B : Int) + 4294967296)] rfl rfl (cell_one_new _ _ _) (by intro u hu; simp at hu; subst hu; rfl) (by unfold maxLen; omega) (by omega) (by simp; omega) ?_; intro v' w1 h1 h2 _)
          have R1 := R.step (d := A + 4294967296 - (cr + B)) (cr' := 1) (by omega) (by omega) (by have q1 := HAB.out.1; have q2 := HAB.out.2; omega) (by omega) (by omega) h1 h2
          clear R hown HO h1 h2
          go_roundw
          case rel => exact ⟨i + 1, 1, _, by go_num, rfl, R1⟩
          case measure => simp [intOf]; omega
      · have hB0 : B = 0 := by rw [hB]; exact getD_out (by omega)
        subst hB0
        clear hB
        by_cases hov : cr ≤ A
        · have hov' : 0 ≤ -(cr : Int) + (A : Int) := by omega
          go_wp2_with (at_builtin; refine wpList_append_own _ rfl _ _ 51 rfl w.heap.size 105 i0 (.int .u32 0) 1 4 Tryz.underlying51 hi0 hz0 hz1 hz2 rfl (by decide) _ i (lims ks) rfl (HO.out _) ⟨_, 0, none⟩ 1 1 [.int .u32 (-(cr : Int) + (A : Int))] rfl rfl (cell_one_new _ _ _) (by intro u hu; simp at hu; subst hu; rfl) (by unfold maxLen; omega) (by omega) (by simp; omega) ?_; intro v' w1 h1 h2 _)
          have R1 := R.step (d := A - (cr)) (cr' := 0) (by omega) (by omega) (by have q1 := HAB.out.1; have q2 := HAB.out.2; omega) (by omega) (by omega) h1 h2
          clear R hown HO h1 h2
          go_roundw
          case rel => exact ⟨i + 1, 0, _, by go_num, rfl, R1⟩
          case measure => simp [intOf]; omega
        · have hov' : -(cr : Int) + (A : Int) < 0 := by omega
          go_wp2_with (at_builtin; refine wpList_append_own _ rfl _ _ 51 rfl w.heap.size 105 i0 (.int .u32 0) 1 4 Tryz.underlying51 hi0 hz0 hz1 hz2 rfl (by decide) _ i (lims ks) rfl (HO.out _) ⟨_, 0, none⟩ 1 1 [.int .u32 (-(cr : Int) + (A : Int) + 4294967296)] rfl rfl (cell_one_new _ _ _) (by intro u hu; simp at hu; subst hu; rfl) (by unfold maxLen; omega) (by omega) (by simp; omega) ?_; intro v' w1 h1 h2 _)
          have R1 := R.step (d := A + 4294967296 - (cr)) (cr' := 1) (by omega) (by omega) (by have q1 := HAB.out.1; have q2 := HAB.out.2; omega) (by omega) (by omega) h1 h2
          clear R hown HO h1 h2
          go_roundw
          case rel => exact ⟨i + 1, 1, _, by go_num, rfl, R1⟩
          case measure => simp [intOf]; omega
    · have hA0 : A = 0 := by rw [hA]; exact getD_out (by omega)
      subst hA0
      clear hA
      by_cases him : i < m
      · obtain ⟨g2, rfl, hg2, hc2⟩ := hcb i him
        have hc2' : wr.cell? ⟨g2, i, none⟩ = some (.int .u32 (B : Int)) := by rw [hB]; exact (R.below.cell (by exact hg2)).trans hc2
        clear hc2 hB
        by_cases hov : cr + B ≤ 0
        · have hov' : 0 ≤ -(cr : Int) - (B : Int) := by omega
          go_wp2_with (at_builtin; refine wpList_append_own _ rfl _ _ 51 rfl w.heap.size 105 i0 (.int .u32 0) 1 4 Tryz.underlying51 hi0 hz0 hz1 hz2 rfl (by decide) _ i (lims ks) rfl (HO.out _) ⟨_, 0, none⟩ 1 1 [.int .u32 (-(cr : Int) - (B : Int))] rfl rfl (cell_one_new _ _ _) (by intro u hu; simp at hu; subst hu; rfl) (by unfold maxLen; omega) (by omega) (by simp; omega) ?_; intro v' w1 h1 h2 _)
          have R1 := R.step (d := 0 - (cr + B)) (cr' := 0) (by omega) (by omega) (by have q1 := HAB.out.1; have q2 := HAB.out.2; omega) (by omega) (by omega) h1 h2
          clear R hown HO h1 h2
          go_roundw
          case rel => exact ⟨i + 1, 0, _, by go_num, rfl, R1⟩
          case measure => simp [intOf]; omega
        · have hov' : -(cr : Int) - (B : Int) < 0 := by omega
          go_wp2_with (at_builtin; refine wpList_append_own _ rfl _ _ 51 rfl w.heap.size 105 i0 (.int .u32 0) 1 4 Tryz.underlying51 hi0 hz0 hz1 hz2 rfl (by decide) _ i (lims ks) rfl (HO.out _) ⟨_, 0, none⟩ 1 1 [.int .u32 (-(cr : Int) - (B : Int) + 4294967296)] rfl rfl (cell_one_new _ _ _) (by intro u hu; simp at hu; subst hu; rfl) (by unfold maxLen; omega) (by omega) (by simp; omega) ?_; intro v' w1 h1 h2 _)
          have R1 := R.step (d := 0 + 4294967296 - (cr + B)) (cr' := 1) (by omega) (by omega) (by have q1 := HAB.out.1; have q2 := HAB.out.2; omega) (by omega) (by omega) h1 h2
          clear R hown HO h1 h2
          go_roundw
          case rel => exact ⟨i + 1, 1, _, by go_num, rfl, R1⟩
          case measure => simp [intOf]; omega
      · have hB0 : B = 0 := by rw [hB]; exact getD_out (by omega)
        subst hB0
        clear hB
        · obtain ⟨hc0, hdone⟩ := R.done (by omega) (by omega) hle
          subst hc0
          have hlim : Lim wr _ ks := ⟨by rw [R.len]; exact own_base hown (Nat.zero_le _), R.ok, by rw [R.len]; omega⟩
          have HE : Hid (lv ks = lv la - lv lb) := hdone
          clear hdone
          have hbel := R.below
          clear R hown HO
          go_wp2_with (go_at_call 61; refine (trim_any _ ks _ hlim).mono ?_; rintro e w' ⟨v', ks', rfl, hl', ht', hv', rfl⟩)
          go_ret
          exact ⟨v', ks', rfl, hl', ht', hv'.trans HE.out, hbel⟩

end Go.Proofs.YtbjjkfmdkmbcfaaGreat
