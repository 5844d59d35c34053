import Derived.Test.YtbjjkfmdkmbcfaaGreatMRg
namespace Go.Proofs.YtbjjkfmdkmbcfaaGreat
open Go.RowKit
open PlLv

attribute [local go_sem ↓] Go.wp_at_zero Go.wp_at_succ

theorem prod_bound {A B o cr : Nat} (hA : A < 4294967296) (hB : B < 4294967296) (ho : o < 4294967296) (hc : cr < 4294967296) : A * B ≤ 18446744065119617025 ∧ A * B + o + cr < 18446744073709551616 := by
  have hAB : A * B ≤ 4294967295 * 4294967295 := Nat.mul_le_mul (by omega) (by omega)
  omega

set_option maxHeartbeats 4000000 in
set_option maxRecDepth 100000 in
theorem times_walk (na nb : Bool) (ao bo : Option Addr) (n m c d : Nat) (la lb : List Nat) (x y : Int) (w : World) (ha : Bg w na (.slice ao n c) la x) (hb : Bg w nb (.slice bo m d) lb y) (hn : la.length = n) (hm : lb.length = m) (hnl : n ≤ 200) (hml : m ≤ 200)
    (hca : ∀ t, t < n → ∃ g, ao = some ⟨g, 0, none⟩ ∧ g < w.heap.size ∧ w.cell? ⟨g, t, none⟩ = some (.int .u32 ((la.getD t 0 : Nat) : Int))) (hcb : ∀ t, t < m → ∃ g, bo = some ⟨g, 0, none⟩ ∧ g < w.heap.size ∧ w.cell? ⟨g, t, none⟩ = some (.int .u32 ((lb.getD t 0 : Nat) : Int))) :
    Calls Tryz.prog 45 #[.agg #[.bool na, .slice ao n c], .agg #[.bool nb, .slice bo m d]] w fun e w' => ∃ nc vc lc, e = .returned (.agg #[.bool nc, vc]) ∧ Bg w' nc vc lc (x * y) ∧ Below w.heap.size w w' := by
  obtain ⟨i0, hi0, hz0, hz1, hz2⟩ := info_parts info105
  have hoa := ha.lim.ok
  have hob := hb.lim.ok
  have HEQ : Hid (x = sv na la ∧ y = sv nb lb) := ⟨ha.eq, hb.eq⟩
  clear ha hb
  go_enter Tryz.func45, Tryz.ntmps45
  go_upto_region 1 with fail
  generalize hW : World.alloc (World.alloc (World.alloc w _) _) _ = W
  have hWs : W.heap.size = w.heap.size + 3 := by subst hW; simp
  have hWb : Below w.heap.size w W := by
    subst hW
    exact ((((Below.refl _ w).alloc (Nat.le_refl _) _).alloc (by simp) _).alloc (by simp; omega) _)
  have KS : ∀ w', Below W.heap.size W w' → (w'.cell? ⟨w.heap.size, 0, none⟩ = some (.bool na) ∧ w'.cell? ⟨w.heap.size, 1, none⟩ = some (.slice ao n c) ∧ w'.cell? ⟨w.heap.size + 1, 0, none⟩ = some (.bool nb) ∧ w'.cell? ⟨w.heap.size + 1, 1, none⟩ = some (.slice bo m d)) := by
    intro w' hb
    obtain ⟨hc, hf⟩ := bcell hb
    refine ⟨?_, ?_, ?_, ?_⟩
    all_goals (rw [hc _ _ (by omega)]; subst hW; simp [go_sem])
  have KR : Hid (∀ w', Below W.heap.size W w' → (w'.cell? ⟨w.heap.size + 1 + 1, 0, none⟩ = some (.bool false) ∧ w'.cell? ⟨w.heap.size + 1 + 1, 1, none⟩ = some (.slice none 0 0) ∧ w'.frozen? ⟨w.heap.size + 1 + 1, 0, none⟩ = false ∧ w'.frozen? ⟨w.heap.size + 1 + 1, 1, none⟩ = false) ∧ (∀ cur, w'.heap[w.heap.size + 1 + 1]? ≠ some (.cells cur 105 (0, 0)))) := by
    intro w' hb
    obtain ⟨hc, hf⟩ := bcell hb
    rw [hc _ _ (by omega), hc _ _ (by omega), hf _ _ (by omega), hf _ _ (by omega), hb.block _ (by omega)]
    subst hW
    refine ⟨by simp [go_sem], fun cur h => ?_⟩
    rw [show w.heap.size + 1 + 1 = ((w.alloc _).alloc _).heap.size by simp, heap_alloc_new] at h
    simp at h
  clear hW hWs
  obtain ⟨k0, k1, k2, k3⟩ := KS W (Below.refl _ _)
  go_wp2_with (at_make; refine wpList_make_full _ rfl _ _ 51 rfl W.heap.size 105 i0 (.int .u32 0) 1 Tryz.underlying51 hi0 hz0 hz1 _ _ _ _ (n + m) rfl rfl (by omega) (by omega) (by rw [hz2]; omega) (by unfold maxLen; omega) (Nat.le_refl _) ?_; intro w0 hown0 hgrow0)
  have hb0 : Below W.heap.size W w0 := (Below.refl _ _).grown hgrow0 (Nat.le_refl _) (fun k h => by cases h)
  have R0 : TRel W w0 la lb (List.replicate (n + m) 0) n m 0 0 0 := by
    refine ⟨by simp, fun l hl => by simp at hl; omega, ?_, hb0, by omega, fun t _ => ?_, ?_⟩
    · have hm' : (madeCells (Value.int .u32 0).cells ((n + m) * 1)).toList = List.replicate (n + m) (Value.int .u32 0) := by rw [Nat.mul_one]; exact toList_madeCells_one _ _
      rw [hm'] at hown0
      simpa [lims] using hown0
    · rw [List.getD_eq_getElem?_getD, List.getElem?_replicate]; split <;> rfl
    · have hz : ∀ q, lv (List.replicate q 0) = 0 := by intro q; induction q with
        | zero => rfl
        | succ q ih => rw [List.replicate_succ, lv, ih]
      rw [hz]; simp [lv]
  clear hown0 hgrow0 k0 k1 k2 k3
  obtain ⟨k0, k1, k2, k3⟩ := KS w0 hb0
  go_wp2
  go_loopw [6] (fun si wr => ∃ (i : Nat) (os : List Nat), si = .int .i64 i ∧ i ≤ n ∧ TRel W wr la lb os n m i 0 0) (fun si _ => n - (intOf si).toNat)
  case atStart => exact ⟨0, _, rfl, Nat.zero_le _, R0⟩
  case round =>
    obtain ⟨i, os, rfl, hi, R⟩ := hrel
    clear R0 hb0 k0 k1 k2 k3
    obtain ⟨k0, k1, k2, k3⟩ := KS wr R.below
    by_cases hin : i < n
    · obtain ⟨g1, rfl, hg1, hc1⟩ := hca i hin
      obtain ⟨A, hA⟩ : ∃ A, A = la.getD i 0 := ⟨_, rfl⟩
      have hAl : A < 4294967296 := by rw [hA]; exact hoa.at i
      rw [← hA] at hc1
      have HA : Hid (A = la.getD i 0) := hA
      clear hA
      go_wp2
      go_loopw [7, 8] (fun sc sk wr => ∃ (k cr : Nat) (os : List Nat), sk = .int .i64 k ∧ sc = .int .u64 cr ∧ k ≤ m ∧ TRel W wr la lb os n m i k cr) (fun _ sk _ => m - (intOf sk).toNat)
      case atStart => exact ⟨0, 0, os, rfl, rfl, Nat.zero_le _, R⟩
      case round =>
        obtain ⟨k, cr, os2, rfl, rfl, hk, R2⟩ := hrel
        clear R k0 k1 k2 k3
        obtain ⟨k0, k1, k2, k3⟩ := KS wr R2.below
        have hcrl := R2.crl
        by_cases hkm : k < m
        · obtain ⟨g2, rfl, hg2, hc2⟩ := hcb k hkm
          obtain ⟨B, hB⟩ : ∃ B, B = lb.getD k 0 := ⟨_, rfl⟩
          obtain ⟨o, ho⟩ : ∃ o, o = os2.getD (i + k) 0 := ⟨_, rfl⟩
          have hBl : B < 4294967296 := by rw [hB]; exact hob.at k
          have hol : o < 4294967296 := by rw [ho]; exact R2.ok.at _
          rw [← hB] at hc2
          have ca : wr.cell? ⟨g1, i, none⟩ = some (.int .u32 (A : Int)) := (R2.below.cell (p := ⟨g1, i, none⟩) (Nat.lt_of_lt_of_le hg1 hWb.size)).trans ((hWb.cell (p := ⟨g1, i, none⟩) hg1).trans hc1)
          have cb : wr.cell? ⟨g2, k, none⟩ = some (.int .u32 (B : Int)) := (R2.below.cell (p := ⟨g2, k, none⟩) (Nat.lt_of_lt_of_le hg2 hWb.size)).trans ((hWb.cell (p := ⟨g2, k, none⟩) hg2).trans hc2)
          have co : wr.cell? ⟨W.heap.size, i + k, none⟩ = some (.int .u32 (o : Int)) := by rw [R2.own.cellAt (i + k) (by omega), lims_at (by rw [R2.len]; omega), ho]
          have fo := R2.own.frozenAt (i + k)
          obtain ⟨pb1, pb2⟩ := prod_bound hAl hBl hol hcrl
          obtain ⟨X, hX⟩ : ∃ X, X = A * B + o + cr := ⟨_, rfl⟩
          have q1 : ((A : Int)) * (B : Int) ≤ 18446744065119617025 := by have : ((A * B : Nat) : Int) ≤ 18446744065119617025 := (by omega); rwa [Int.natCast_mul] at this
          have q2 : 0 ≤ (A : Int) * (B : Int) := Int.mul_nonneg (by omega) (by omega)
          have HX : Hid (X = A * B + o + cr ∧ B = lb.getD k 0 ∧ o = os2.getD (i + k) 0) := ⟨hX, hB, ho⟩
          have i1 : (i : Int) < (n : Int) := by omega
          have i2 : (k : Int) < (m : Int) := by omega
          have i3 : (i : Int) + (k : Int) < ((n + m : Nat) : Int) := by omega
          clear hX hB ho hc2 hg2 pb1 pb2
          go_wp2
          go_quiet (fail)
          go_wp2
          have e : ((X : Nat) : Int) = (A : Int) * (B : Int) + (o : Int) + (cr : Int) := by rw [HX.out.1]; simp
          have hst := (own_kept R2.own (below_drewN (Below.refl _ _) nq)).stored (i + k) (.int .u32 (((A : Int) * (B : Int) + (o : Int) + (cr : Int)) % 4294967296))
          have R3 := R2.step hin hkm HA.out HX.out.2.1 HX.out.2.2 hAl hBl HX.out.1 (by rw [← e]; omega) hst.1 ((below_drewN R2.below nq).setCell (Nat.le_refl _) _)
          clear hst R2
          go_roundw
          case rel => exact ⟨k + 1, X / 4294967296, _, by go_num, by rw [← e]; go_num, by omega, R3⟩
          case measure => simp [intOf]; omega
        · have hkm' : k = m := by omega
          subst hkm'
          have fo := R2.own.frozenAt (i + k)
          have co : ∃ u, wr.cell? ⟨W.heap.size, i + k, none⟩ = some u := by rw [R2.own.cellAt (i + k) (by omega), lims_at (by rw [R2.len]; omega)]; exact ⟨_, rfl⟩
          obtain ⟨u, co⟩ := co
          have i3 : (i : Int) + (k : Int) < ((n + k : Nat) : Int) := by omega
          have hst := R2.own.stored (i + k) (.int .u32 (cr : Int))
          have R3 := R2.row hin hm rfl hst.1 (R2.below.setCell (Nat.le_refl _) _)
          clear hst R2
          go_wp2
          go_roundw
          case rel => exact ⟨i + 1, _, by go_num, by omega, R3⟩
          case measure => simp [intOf]; omega
    · have hin' : i = n := by omega
      have hlim : Lim wr (.slice (some ⟨W.heap.size, 0, none⟩) (n + m) (n + m)) os := ⟨by rw [R.len]; exact own_base R.own (Nat.zero_le _), R.ok, by rw [R.len]; omega⟩
      have he : lv os = lv la * lv lb := by
        have := R.eq
        rw [List.take_of_length_le (by omega), List.take_zero] at this
        simpa [lv] using this
      have HE : Hid (lv os = lv la * lv lb) := he
      have hbel := R.below
      obtain ⟨⟨r0, r1, f0, f1⟩, hrow⟩ := KR.out wr hbel
      clear R he
      cases na <;> cases nb
      · go_wp2_with (go_at_call 61; go_must (refine (trim_any _ os _ hlim).mono ?_; rintro e w1 ⟨v1, ks, rfl, hl1, ht1, he1, rfl⟩; obtain ⟨a1, c1, hv1, _⟩ := hl1.form; subst hv1))
        refine bodyPost_ret (v := .agg #[.bool false, .slice a1 ks.length c1]) (by simp [results, Tryz.results45, go_sem, r0, r1]) rfl ⟨false, _, ks, rfl, ⟨hl1.store2 hrow, ht1, sv_mul HEQ.out.1 HEQ.out.2 (he1.trans HE.out) ht1, fun h => by cases h⟩, ?_⟩
        exact ((hWb.trans (hbel.mono hWb.size)).setCell (by simp; omega) _).setCell (by simp; omega) _
      · go_wp2_with (go_at_call 61; go_must (refine (trim_any _ os _ hlim).mono ?_; rintro e w1 ⟨v1, ks, rfl, hl1, ht1, he1, rfl⟩; obtain ⟨a1, c1, hv1, _⟩ := hl1.form; subst hv1; have hkl := hl1.len))
        refine bodyPost_ret (v := .agg #[.bool (decide (0 < ks.length)), .slice a1 ks.length c1]) (by simp [results, Tryz.results45, go_sem, r0, r1]) rfl ⟨decide (0 < ks.length), _, ks, rfl, ⟨hl1.store2 hrow, ht1, sv_mul HEQ.out.1 HEQ.out.2 (he1.trans HE.out) ht1, fun h h0 => by rw [h0] at h; simp at h⟩, ?_⟩
        exact ((hWb.trans (hbel.mono hWb.size)).setCell (by simp; omega) _).setCell (by simp; omega) _
      · go_wp2_with (go_at_call 61; go_must (refine (trim_any _ os _ hlim).mono ?_; rintro e w1 ⟨v1, ks, rfl, hl1, ht1, he1, rfl⟩; obtain ⟨a1, c1, hv1, _⟩ := hl1.form; subst hv1; have hkl := hl1.len))
        refine bodyPost_ret (v := .agg #[.bool (decide (0 < ks.length)), .slice a1 ks.length c1]) (by simp [results, Tryz.results45, go_sem, r0, r1]) rfl ⟨decide (0 < ks.length), _, ks, rfl, ⟨hl1.store2 hrow, ht1, sv_mul HEQ.out.1 HEQ.out.2 (he1.trans HE.out) ht1, fun h h0 => by rw [h0] at h; simp at h⟩, ?_⟩
        exact ((hWb.trans (hbel.mono hWb.size)).setCell (by simp; omega) _).setCell (by simp; omega) _
      · go_wp2_with (go_at_call 61; go_must (refine (trim_any _ os _ hlim).mono ?_; rintro e w1 ⟨v1, ks, rfl, hl1, ht1, he1, rfl⟩; obtain ⟨a1, c1, hv1, _⟩ := hl1.form; subst hv1))
        refine bodyPost_ret (v := .agg #[.bool false, .slice a1 ks.length c1]) (by simp [results, Tryz.results45, go_sem, r0, r1]) rfl ⟨false, _, ks, rfl, ⟨hl1.store2 hrow, ht1, sv_mul HEQ.out.1 HEQ.out.2 (he1.trans HE.out) ht1, fun h => by cases h⟩, ?_⟩
        exact ((hWb.trans (hbel.mono hWb.size)).setCell (by simp; omega) _).setCell (by simp; omega) _

/-- 'Times'. -/
theorem times_bg (na nb : Bool) (va vb : Value) (la lb : List Nat) (x y : Int) (w : World) (ha : Bg w na va la x) (hb : Bg w nb vb lb y) (hsa : Small x) (hsb : Small y) :
    Calls Tryz.prog 45 #[.agg #[.bool na, va], .agg #[.bool nb, vb]] w fun e w' => ∃ nc vc lc, e = .returned (.agg #[.bool nc, vc]) ∧ Bg w' nc vc lc (x * y) ∧ Below w.heap.size w w' := by
  have h1 := ha.len hsa
  have h2 := hb.len hsb
  obtain ⟨ao, c, rfl, hca⟩ := ha.lim.form
  obtain ⟨bo, d, rfl, hcb⟩ := hb.lim.form
  exact times_walk na nb ao bo _ _ c d la lb x y w ha hb rfl rfl h1 h2 hca hcb

end Go.Proofs.YtbjjkfmdkmbcfaaGreat

namespace Go.Proofs.YtbjjkfmdkmbcfaaGreat
open Go.RowKit
open PlLv

attribute [local go_sem ↓] Go.wp_at_zero Go.wp_at_succ

theorem lv_zeros (q : Nat) : lv (List.replicate q 0) = 0 := by
  induction q with
  | zero => rfl
  | succ q ih => rw [List.replicate_succ, lv, ih]

theorem P_two (q : Nat) : P q = 2 ^ (32 * q) := by
  unfold P
  rw [Nat.pow_mul]

theorem lims_append (a b : List Nat) : lims (a ++ b) = lims a ++ lims b := by simp [lims]

theorem cells_three (w : World) (a b c : Value) (t : TypeId) : ∀ j u, [a, b, c][j]? = some u → (w.alloc (.cells #[a, b, c] t)).cell? ((⟨w.heap.size, 0, none⟩ : Addr).add j) = some u := by
  intro j u hu
  have hadd : ∀ j, (⟨w.heap.size, 0, none⟩ : Addr).add j = ⟨w.heap.size, j, none⟩ := fun j => by unfold Addr.add; split <;> simp_all
  rw [hadd, World.cell?_alloc_at _ _ _ _ rfl]
  match j, hu with
  | 0, hu => simpa using hu
  | 1, hu => simpa using hu
  | 2, hu => simpa using hu

theorem hlim_of {w1 : World} {B i L H1 m p j t : Nat} {v : Value} (h : w1.ownsRow B 105 1 v (i + 3) (lims (List.replicate i 0) ++ [.int .u32 ((L : Int) % 4294967296), .int .u32 (((H1 : Int) + (L : Int) / 4294967296) % 4294967296), .int .u32 (((H1 : Int) + (L : Int) / 4294967296) / 4294967296)]))
    (hV : L % 4294967296 + 4294967296 * ((H1 + L / 4294967296) % 4294967296) + 4294967296 * 4294967296 * ((H1 + L / 4294967296) / 4294967296) = m * p) (hp : p = 2 ^ j) (ht : t = 32 * i + j) (hi : i ≤ 31) (hb : (H1 + L / 4294967296) / 4294967296 < 4294967296) :
    Lim w1 v (List.replicate i 0 ++ [L % 4294967296, (H1 + L / 4294967296) % 4294967296, (H1 + L / 4294967296) / 4294967296]) ∧ lv (List.replicate i 0 ++ [L % 4294967296, (H1 + L / 4294967296) % 4294967296, (H1 + L / 4294967296) / 4294967296]) = m * 2 ^ t := by
  constructor
  · refine ⟨?_, ?_, by simp; omega⟩
    · have e : lims (List.replicate i 0 ++ [L % 4294967296, (H1 + L / 4294967296) % 4294967296, (H1 + L / 4294967296) / 4294967296]) = lims (List.replicate i 0) ++ [.int .u32 ((L : Int) % 4294967296), .int .u32 (((H1 : Int) + (L : Int) / 4294967296) % 4294967296), .int .u32 (((H1 : Int) + (L : Int) / 4294967296) / 4294967296)] := by
        rw [lims_append]; simp [lims]
      rw [e]
      have hl : (List.replicate i 0 ++ [L % 4294967296, (H1 + L / 4294967296) % 4294967296, (H1 + L / 4294967296) / 4294967296]).length = i + 3 := by simp
      rw [hl]
      exact own_base h (Nat.zero_le _)
    · refine Ok.append (fun l hl => ?_) (fun l hl => ?_)
      · simp at hl; omega
      · simp at hl; omega
  · rw [lv_append, lv_zeros, List.length_replicate, Nat.zero_add]
    have e : lv [L % 4294967296, (H1 + L / 4294967296) % 4294967296, (H1 + L / 4294967296) / 4294967296] = m * p := by
      rw [← hV]; simp only [lv]; omega
    rw [e, hp, ht, P_two, Nat.pow_add, Nat.mul_left_comm]

set_option maxHeartbeats 1000000 in
set_option maxRecDepth 100000 in
theorem doubled_any (m t : Nat) (w : World) (hm : m < 9007199254740992) (ht : t ≤ 1000) :
    Calls Tryz.prog 52 #[.int .u64 m, .int .i64 t] w fun e w' => ∃ v' ks, e = .returned v' ∧ Lim w' v' ks ∧ Tr ks ∧ lv ks = m * 2 ^ t ∧ Below w.heap.size w w' := by
  obtain ⟨i0, hi0, hz0, hz1, hz2⟩ := info_parts info105
  obtain ⟨q, hq⟩ : ∃ q, q = t / 32 := ⟨_, rfl⟩
  obtain ⟨r, hr⟩ : ∃ r, r = t % 32 := ⟨_, rfl⟩
  have eq1 : ((t : Int)) / 32 = (q : Int) := by omega
  have eq2 : ((t : Int)) % 32 = (r : Int) := by omega
  have hql : q ≤ 31 := by omega
  have hrl : r < 32 := by omega
  have HT : Hid (t = 32 * q + r) := by unfold Hid; omega
  clear hq hr
  go_enter Tryz.func52, Tryz.ntmps52
  go_wp2
  go_loopw [5, 6] (fun so si wr => ∃ i : Nat, si = .int .i64 i ∧ i ≤ q ∧ wr.ownsRow w.heap.size 105 1 so i (lims (List.replicate i 0)) ∧ Below w.heap.size w wr) (fun _ si _ => q - (intOf si).toNat)
  case atStart => exact ⟨0, rfl, Nat.zero_le _, World.ownsRow_nil _ _ _ _, Below.refl _ _⟩
  case round =>
    obtain ⟨i, rfl, hi, hown, hbel⟩ := hrel
    have hsz := hbel.size
    have HO : Hid (∀ o, (wr.alloc o).ownsRow w.heap.size 105 1 _ i (lims (List.replicate i 0))) := fun o => hown.alloc o
    by_cases hlt : i < q
    · go_wp2_with (at_builtin; refine wpList_append_own _ rfl _ _ 51 rfl w.heap.size 105 i0 (.int .u32 0) 1 4 Tryz.underlying51 hi0 hz0 hz1 hz2 rfl (by decide) _ i (lims (List.replicate i 0)) rfl (HO.out _) ⟨_, 0, none⟩ 1 1 [.int .u32 0] rfl rfl (cell_one_new _ _ _) (by intro u hu; simp at hu; subst hu; rfl) (by unfold maxLen; omega) (by omega) (by simp; omega) ?_; intro v' w1 h1 h2 _)
      have e : lims (List.replicate (i + 1) 0) = lims (List.replicate i 0) ++ [.int .u32 0] := by rw [List.replicate_succ', lims_append]; rfl
      have hB : Below w.heap.size w w1 := (hbel.alloc hbel.size _).grown h2 (by simp; omega) (fun k hk => (hown.lt k hk).1)
      rw [← e] at h1
      clear h2 hown HO e
      go_roundw
      case rel => exact ⟨i + 1, by go_num, by omega, h1, hB⟩
      case measure => simp [intOf]; omega
    · have hiq : i = q := by omega
      subst hiq
      go_wp2
      go_loop [8, 9] (fun sp si => ∃ j p : Nat, si = .int .i64 j ∧ sp = .int .u64 p ∧ j ≤ r ∧ p = 2 ^ j) (fun _ si => r - (intOf si).toNat)
      case atStart => exact ⟨0, 1, rfl, rfl, Nat.zero_le _, rfl⟩
      case round =>
        obtain ⟨j, p, rfl, rfl, hj, hp⟩ := hrel
        have hpl : p ≤ 2147483648 := by rw [hp]; exact Nat.pow_le_pow_right (n := 2) (by decide) (show j ≤ 31 by omega)
        have HP : Hid (p = 2 ^ j) := hp
        clear hp
        by_cases hjr : j < r
        · go_wp2
          go_round
          case rel => exact ⟨j + 1, 2 * p, by go_num, by go_num, by omega, by rw [HP.out, Nat.pow_succ, Nat.mul_comm]⟩
          case measure => simp [intOf]; omega
        · have hjr' : j = r := by omega
          subst hjr'
          obtain ⟨a, ea⟩ : ∃ a, a = m % 4294967296 := ⟨_, rfl⟩
          obtain ⟨b, eb⟩ : ∃ b, b = m / 4294967296 := ⟨_, rfl⟩
          obtain ⟨L, eL⟩ : ∃ L, L = a * p := ⟨_, rfl⟩
          obtain ⟨H1, eH⟩ : ∃ H1, H1 = b * p := ⟨_, rfl⟩
          have bL : L ≤ 4294967295 * 2147483648 := by rw [eL]; exact Nat.mul_le_mul (by omega) hpl
          have bH : H1 ≤ 2097151 * 2147483648 := by rw [eH]; exact Nat.mul_le_mul (by omega) hpl
          have HV : Hid (L % 4294967296 + 4294967296 * ((H1 + L / 4294967296) % 4294967296) + 4294967296 * 4294967296 * ((H1 + L / 4294967296) / 4294967296) = m * p) := by
            have e1 : m * p = L + 4294967296 * H1 := by
              rw [eL, eH, ← Nat.mul_assoc, ← Nat.add_mul, ea, eb]; congr 1; omega
            unfold Hid; omega
          have r1 : (m : Int) % 4294967296 = (a : Int) := by omega
          have r2 : (m : Int) / 4294967296 = (b : Int) := by omega
          have r3 : (a : Int) * (p : Int) = (L : Int) := by rw [eL]; simp
          have r4 : (b : Int) * (p : Int) = (H1 : Int) := by rw [eH]; simp
          clear ea eb eL eH
          go_wp2_with (first | (at_builtin; go_must (refine wpList_append_own _ rfl _ _ 51 rfl w.heap.size 105 i0 (.int .u32 0) 1 4 Tryz.underlying51 hi0 hz0 hz1 hz2 rfl (by decide) _ i (lims (List.replicate i 0)) rfl (HO.out _) ⟨_, 0, none⟩ 3 3 [.int .u32 ((L : Int) % 4294967296), .int .u32 (((H1 : Int) + (L : Int) / 4294967296) % 4294967296), .int .u32 (((H1 : Int) + (L : Int) / 4294967296) / 4294967296)] rfl rfl (cells_three _ _ _ _ _) (by intro u hu; simp at hu; rcases hu with rfl | rfl | rfl <;> rfl) (by unfold maxLen; omega) (by omega) (by simp; omega) ?_; intro v' w1 h1 h2 _; have hlim := hlim_of h1 HV.out HP.out HT.out (by omega) (by omega); have hB : Below w.heap.size w w1 := (hbel.alloc hbel.size _).grown h2 (by simp; omega) (fun k hk => (hown.lt k hk).1))) | (go_at_call 61; go_must (refine (trim_any _ _ _ hlim.1).mono ?_; rintro e w2 ⟨v2, ks, rfl, hl2, ht2, he2, rfl⟩)))
          go_ret
          exact ⟨v2, ks, rfl, hl2, ht2, he2.trans hlim.2, hB⟩

end Go.Proofs.YtbjjkfmdkmbcfaaGreat

namespace Go.Proofs.YtbjjkfmdkmbcfaaGreat
open Go.RowKit
open PlLv
open Ieee (double signed)

attribute [local go_sem ↓] Go.wp_at_zero Go.wp_at_succ

/-- How the bits are read, by their parts. -/
theorem read_parts (b e0 m0 : Nat) (ng : Bool) (hb : b < 2 ^ 64) (he : e0 = b / 4503599627370496 % 2048) (hm : m0 = b % 4503599627370496) (hn : ng = decide (9223372036854775808 ≤ b)) :
    (e0 = 0 → double.read b = .number ng m0 (-1074)) ∧ (0 < e0 → e0 < 2047 → double.read b = .number ng (4503599627370496 + m0) (-1074 + ((e0 - 1 : Nat) : Int))) ∧ (e0 = 2047 → (∃ s, double.read b = .infinity s) ∨ ∃ s t, double.read b = .nan s t) := by
  have hsw : double.signWeight = 9223372036854775808 := by decide
  have hbi : double.binade = 4503599627370496 := by decide
  have hi : double.infRung = 2047 * 4503599627370496 := by decide
  have hlp : double.leastPlace = -1074 := by decide
  have e1 : (b / 9223372036854775808 % 2 == 1) = ng := by
    rw [hn]
    by_cases h : 9223372036854775808 ≤ b
    · have : b / 9223372036854775808 = 1 := by omega
      simp [this, h]
    · have : b / 9223372036854775808 = 0 := by omega
      simp [this, h]
  have hq : b % 9223372036854775808 / 4503599627370496 = e0 := by omega
  have hr : b % 9223372036854775808 % 4503599627370496 = m0 := by omega
  unfold Ieee.Format.read
  simp only [hsw, hbi, hi, hlp, e1]
  refine ⟨fun h => ?_, fun h1 h2 => ?_, fun h => ?_⟩
  · rw [if_pos (by omega), show b % 9223372036854775808 = m0 by omega]
  · rw [if_neg (by omega), if_pos (by omega), hq, hr]
  · rw [if_neg (by omega), if_neg (by omega)]
    split
    · exact .inl ⟨_, rfl⟩
    · exact .inr ⟨_, _, rfl⟩

/-- May it be, by its magnitude in units. -/
theorem mayB_mag {b M k V : Nat} {ng : Bool} {p : Int} (h : double.read b = .number ng M p) (hk : (p + 1074).toNat = k) (hV : V = M * 2 ^ k) : mayB b = (decide (V < 2 ^ 1174) && decide (2 ^ 974 ∣ V)) ∧ valB b = if ng then -(V : Int) else (V : Int) := by
  have e1 : signed ng M k = if ng then -(V : Int) else (V : Int) := by
    rw [PlRd.signed_eq, hV, PlRd.cast_two_pow]; split <;> simp [Int.neg_mul]
  constructor
  · unfold mayB
    rw [h]
    simp only [hk, e1]
    have a1 : (if ng then -(V : Int) else (V : Int)).natAbs = V := by split <;> simp
    have a2 : ((2 : Int) ^ 974 ∣ if ng then -(V : Int) else (V : Int)) ↔ 2 ^ 974 ∣ V := by
      have c := cast_pow2 974
      rw [← c]
      split
      · rw [Int.dvd_neg]; exact Int.ofNat_dvd
      · exact Int.ofNat_dvd
    rw [a1]
    congr 1
    exact decide_eq_decide.2 a2
  · unfold valB
    rw [h]
    simp only [hk, e1]

theorem not_dvd_odd {M k a : Nat} (h : M % 2 = 1) (hk : k < a) : ¬ 2 ^ a ∣ M * 2 ^ k := by
  intro hd
  obtain ⟨t, rfl⟩ := Nat.exists_eq_add_of_lt hk
  rw [show k + t + 1 = (t + 1) + k by omega, Nat.pow_add] at hd
  have h2 := Nat.dvd_of_mul_dvd_mul_right (Nat.two_pow_pos k) hd
  rw [Nat.pow_succ] at h2
  have : 2 ∣ M := Nat.dvd_trans (Nat.dvd_mul_left 2 (2 ^ t)) h2
  omega

end Go.Proofs.YtbjjkfmdkmbcfaaGreat
