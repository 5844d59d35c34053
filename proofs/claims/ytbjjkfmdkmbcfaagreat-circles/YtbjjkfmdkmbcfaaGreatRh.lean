import Derived.Test.YtbjjkfmdkmbcfaaGreatRg
namespace Go.Proofs.YtbjjkfmdkmbcfaaGreat
open Go.RowKit
open PlLv

attribute [local go_sem ↓] Go.wp_at_zero Go.wp_at_succ

theorem prod_bound {A B o cr : Nat} (hA : A < 4294967296) (hB : B < 4294967296) (ho : o < 4294967296) (hc : cr < 4294967296) : A * B ≤ 18446744065119617025 ∧ A * B + o + cr < 18446744073709551616 := by
  have hAB : A * B ≤ 4294967295 * 4294967295 := Nat.mul_le_mul (by omega) (by omega)
  omega

set_option maxHeartbeats 4000000 in
set_option maxRecDepth 100000 in
theorem times_walk (na nb : Bool) (ao bo : Option Addr) (n m c d : Nat) (la lb : List Nat) (x y : Int) (w : World) (ha : Bg w na (.slice ao n c) la x) (hb : Bg w nb (.slice bo m d) lb y) (hn : la.length = n) (hm : lb.length = m) (hnl : n ≤ 200) (hml : m ≤ 200)
    (hca : ∀ t, t < n → ∃ g, ao = some ⟨g, 0, none⟩ ∧ g < w.heap.size ∧ w.cell? ⟨g, t, none⟩ = some (.int .u32 ((la.getD t 0 : Nat) : Int))) (hcb : ∀ t, t < m → ∃ g, bo = some ⟨g, 0, none⟩ ∧ g < w.heap.size ∧ w.cell? ⟨g, t, none⟩ = some (.int .u32 ((lb.getD t 0 : Nat) : Int))) :
    Calls Tryz.prog 45 #[.agg #[.bool na, .slice ao n c], .agg #[.bool nb, .slice bo m d]] w fun e w' => ∃ nc vc lc, e = .returned (.agg #[.bool nc, vc]) ∧ Bg w' nc vc lc (x * y) ∧ Below w.heap.size w w' := by
  obtain ⟨i0, hi0, hz0, hz1, hz2⟩ := info_parts info105
  have hoa := ha.lim.ok
  have hob := hb.lim.ok
  have HEQ : Hid (x = sv na la ∧ y = sv nb lb) := ⟨ha.eq, hb.eq⟩
  clear ha hb
  go_enter Tryz.func45, Tryz.ntmps45
  go_upto_region 1 with fail
  generalize hW : World.alloc (World.alloc (World.alloc w _) _) _ = W
  have hWs : W.heap.size = w.heap.size + 3 := by subst hW; simp
  have hWb : Below w.heap.size w W := by
    subst hW
    exact ((((Below.refl _ w).alloc (Nat.le_refl _) _).alloc (by simp) _).alloc (by simp; omega) _)
  have KS : ∀ w', Below W.heap.size W w' → (w'.cell? ⟨w.heap.size, 0, none⟩ = some (.bool na) ∧ w'.cell? ⟨w.heap.size, 1, none⟩ = some (.slice ao n c) ∧ w'.cell? ⟨w.heap.size + 1, 0, none⟩ = some (.bool nb) ∧ w'.cell? ⟨w.heap.size + 1, 1, none⟩ = some (.slice bo m d)) := by
    intro w' hb
    obtain ⟨hc, hf⟩ := bcell hb
    refine ⟨?_, ?_, ?_, ?_⟩
    all_goals (rw [hc _ _ (by omega)]; subst hW; simp [go_sem])
  have KR : Hid (∀ w', Below W.heap.size W w' → (w'.cell? ⟨w.heap.size + 1 + 1, 0, none⟩ = some (.bool false) ∧ w'.cell? ⟨w.heap.size + 1 + 1, 1, none⟩ = some (.slice none 0 0) ∧ w'.frozen? ⟨w.heap.size + 1 + 1, 0, none⟩ = false ∧ w'.frozen? ⟨w.heap.size + 1 + 1, 1, none⟩ = false) ∧ (∀ cur, w'.heap[w.heap.size + 1 + 1]? ≠ some (.cells cur 105 (0, 0)))) := by
    intro w' hb
    obtain ⟨hc, hf⟩ := bcell hb
    rw [hc _ _ (by omega), hc _ _ (by omega), hf _ _ (by omega), hf _ _ (by omega), hb.block _ (by omega)]
    subst hW
    refine ⟨by simp [go_sem], fun cur h => ?_⟩
    rw [show w.heap.size + 1 + 1 = ((w.alloc _).alloc _).heap.size by simp, heap_alloc_new] at h
    simp at h
  clear hW hWs
  obtain ⟨k0, k1, k2, k3⟩ := KS W (Below.refl _ _)
  go_wp2_with (at_make; refine wpList_make_full _ rfl _ _ 51 rfl W.heap.size 105 i0 (.int .u32 0) 1 Tryz.underlying51 hi0 hz0 hz1 _ _ _ _ (n + m) rfl rfl (by omega) (by omega) (by rw [hz2]; omega) (by unfold maxLen; omega) (Nat.le_refl _) ?_; intro w0 hown0 hgrow0)
  have hb0 : Below W.heap.size W w0 := (Below.refl _ _).grown hgrow0 (Nat.le_refl _) (fun k h => by cases h)
  have R0 : TRel W w0 la lb (List.replicate (n + m) 0) n m 0 0 0 := by
    refine ⟨by simp, fun l hl => by simp at hl; omega, ?_, hb0, by omega, fun t _ => ?_, ?_⟩
    · have hm' : (madeCells (Value.int .u32 0).cells ((n + m) * 1)).toList = List.replicate (n + m) (Value.int .u32 0) := by rw [Nat.mul_one]; exact toList_madeCells_one _ _
      rw [hm'] at hown0
      simpa [lims] using hown0
    · rw [List.getD_eq_getElem?_getD, List.getElem?_replicate]; split <;> rfl
    · have hz : ∀ q, lv (List.replicate q 0) = 0 := by intro q; induction q with
        | zero => rfl
        | succ q ih => rw [List.replicate_succ, lv, ih]
      rw [hz]; simp [lv]
  clear hown0 hgrow0 k0 k1 k2 k3
  obtain ⟨k0, k1, k2, k3⟩ := KS w0 hb0
  go_wp2
  go_loopw [6] (fun si wr => ∃ (i : Nat) (os : List Nat), si = .int .i64 i ∧ i ≤ n ∧ TRel W wr la lb os n m i 0 0) (fun si _ => n - (intOf si).toNat)
  case atStart => exact ⟨0, _, rfl, Nat.zero_le _, R0⟩
  case round =>
    obtain ⟨i, os, rfl, hi, R⟩ := hrel
    clear R0 hb0 k0 k1 k2 k3
    obtain ⟨k0, k1, k2, k3⟩ := KS wr R.below
    by_cases hin : i < n
    · obtain ⟨g1, rfl, hg1, hc1⟩ := hca i hin
      obtain ⟨A, hA⟩ : ∃ A, A = la.getD i 0 := ⟨_, rfl⟩
      have hAl : A < 4294967296 := by rw [hA]; exact hoa.at i
      rw [← hA] at hc1
      have HA : Hid (A = la.getD i 0) := hA
      clear hA
      go_wp2
      go_loopw [7, 8] (fun sc sk wr => ∃ (k cr : Nat) (os : List Nat), sk = .int .i64 k ∧ sc = .int .u64 cr ∧ k ≤ m ∧ TRel W wr la lb os n m i k cr) (fun _ sk _ => m - (intOf sk).toNat)
      case atStart => exact ⟨0, 0, os, rfl, rfl, Nat.zero_le _, R⟩
      case round =>
        obtain ⟨k, cr, os2, rfl, rfl, hk, R2⟩ := hrel
        clear R k0 k1 k2 k3
        obtain ⟨k0, k1, k2, k3⟩ := KS wr R2.below
        have hcrl := R2.crl
        by_cases hkm : k < m
        · obtain ⟨g2, rfl, hg2, hc2⟩ := hcb k hkm
          obtain ⟨B, hB⟩ : ∃ B, B = lb.getD k 0 := ⟨_, rfl⟩
          obtain ⟨o, ho⟩ : ∃ o, o = os2.getD (i + k) 0 := ⟨_, rfl⟩
          have hBl : B < 4294967296 := by rw [hB]; exact hob.at k
          have hol : o < 4294967296 := by rw [ho]; exact R2.ok.at _
          rw [← hB] at hc2
          have ca : wr.cell? ⟨g1, i, none⟩ = some (.int .u32 (A : Int)) := (R2.below.cell (p := ⟨g1, i, none⟩) (Nat.lt_of_lt_of_le hg1 hWb.size)).trans ((hWb.cell (p := ⟨g1, i, none⟩) hg1).trans hc1)
          have cb : wr.cell? ⟨g2, k, none⟩ = some (.int .u32 (B : Int)) := (R2.below.cell (p := ⟨g2, k, none⟩) (Nat.lt_of_lt_of_le hg2 hWb.size)).trans ((hWb.cell (p := ⟨g2, k, none⟩) hg2).trans hc2)
          have co : wr.cell? ⟨W.heap.size, i + k, none⟩ = some (.int .u32 (o : Int)) := by rw [R2.own.cellAt (i + k) (by omega), lims_at (by rw [R2.len]; omega), ho]
          have fo := R2.own.frozenAt (i + k)
          obtain ⟨pb1, pb2⟩ := prod_bound hAl hBl hol hcrl
          obtain ⟨X, hX⟩ : ∃ X, X = A * B + o + cr := ⟨_, rfl⟩
          have q1 : ((A : Int)) * (B : Int) ≤ 18446744065119617025 := by have : ((A * B : Nat) : Int) ≤ 18446744065119617025 := (by omega); rwa [Int.natCast_mul] at this
          have q2 : 0 ≤ (A : Int) * (B : Int) := Int.mul_nonneg (by omega) (by omega)
          have HX : Hid (X = A * B + o + cr ∧ B = lb.getD k 0 ∧ o = os2.getD (i + k) 0) := ⟨hX, hB, ho⟩
          have i1 : (i : Int) < (n : Int) := by omega
          have i2 : (k : Int) < (m : Int) := by omega
          have i3 : (i : Int) + (k : Int) < ((n + m : Nat) : Int) := by omega
          clear hX hB ho hc2 hg2 pb1 pb2
          go_wp2
          go_quiet (fail)
          go_wp2
          have e : ((X : Nat) : Int) = (A : Int) * (B : Int) + (o : Int) + (cr : Int) := by rw [HX.out.1]; simp
          have hst := (own_kept R2.own (below_drewN (Below.refl _ _) nq)).stored (i + k) (.int .u32 (((A : Int) * (B : Int) + (o : Int) + (cr : Int)) % 4294967296))
          have R3 := R2.step hin hkm HA.out HX.out.2.1 HX.out.2.2 hAl hBl HX.out.1 (by rw [← e]; omega) hst.1 ((below_drewN R2.below nq).setCell (Nat.le_refl _) _)
          clear hst R2
          go_roundw
          case rel => exact ⟨k + 1, X / 4294967296, _, by go_num, by rw [← e]; go_num, by omega, R3⟩
          case measure => simp [intOf]; omega
        · have hkm' : k = m := by omega
          subst hkm'
          have fo := R2.own.frozenAt (i + k)
          have co : ∃ u, wr.cell? ⟨W.heap.size, i + k, none⟩ = some u := by rw [R2.own.cellAt (i + k) (by omega), lims_at (by rw [R2.len]; omega)]; exact ⟨_, rfl⟩
          obtain ⟨u, co⟩ := co
          have i3 : (i : Int) + (k : Int) < ((n + k : Nat) : Int) := by omega
          have hst := R2.own.stored (i + k) (.int .u32 (cr : Int))
          have R3 := R2.row hin hm rfl hst.1 (R2.below.setCell (Nat.le_refl _) _)
          clear hst R2
          go_wp2
          go_roundw
          case rel => exact ⟨i + 1, _, by go_num, by omega, R3⟩
          case measure => simp [intOf]; omega
    · have hin' : i = n := by omega
      have hlim : Lim wr (.slice (some ⟨W.heap.size, 0, none⟩) (n + m) (n + m)) os := ⟨by rw [R.len]; exact own_base R.own (Nat.zero_le _), R.ok, by rw [R.len]; omega⟩
      have he : lv os = lv la * lv lb := by
        have := R.eq
        rw [List.take_of_length_le (by omega), List.take_zero] at this
        simpa [lv] using this
      have HE : Hid (lv os = lv la * lv lb) := he
      have hbel := R.below
      obtain ⟨⟨r0, r1, f0, f1⟩, hrow⟩ := KR.out wr hbel
      clear R he
      cases na <;> cases nb
      · go_wp2_with (go_at_call 61; go_must (refine (trim_any _ os _ hlim).mono ?_; rintro e w1 ⟨v1, ks, rfl, hl1, ht1, he1, rfl⟩; obtain ⟨a1, c1, hv1, _⟩ := hl1.form; subst hv1))
        refine bodyPost_ret (v := .agg #[.bool false, .slice a1 ks.length c1]) (by simp [results, Tryz.results45, go_sem, r0, r1]) rfl ⟨false, _, ks, rfl, ⟨hl1.store2 hrow, ht1, sv_mul HEQ.out.1 HEQ.out.2 (he1.trans HE.out) ht1, fun h => by cases h⟩, ?_⟩
        exact ((hWb.trans (hbel.mono hWb.size)).setCell (by simp; omega) _).setCell (by simp; omega) _
      · go_wp2_with (go_at_call 61; go_must (refine (trim_any _ os _ hlim).mono ?_; rintro e w1 ⟨v1, ks, rfl, hl1, ht1, he1, rfl⟩; obtain ⟨a1, c1, hv1, _⟩ := hl1.form; subst hv1; have hkl := hl1.len))
        refine bodyPost_ret (v := .agg #[.bool (decide (0 < ks.length)), .slice a1 ks.length c1]) (by simp [results, Tryz.results45, go_sem, r0, r1]) rfl ⟨decide (0 < ks.length), _, ks, rfl, ⟨hl1.store2 hrow, ht1, sv_mul HEQ.out.1 HEQ.out.2 (he1.trans HE.out) ht1, fun h h0 => by rw [h0] at h; simp at h⟩, ?_⟩
        exact ((hWb.trans (hbel.mono hWb.size)).setCell (by simp; omega) _).setCell (by simp; omega) _
      · go_wp2_with (go_at_call 61; go_must (refine (trim_any _ os _ hlim).mono ?_; rintro e w1 ⟨v1, ks, rfl, hl1, ht1, he1, rfl⟩; obtain ⟨a1, c1, hv1, _⟩ := hl1.form; subst hv1; have hkl := hl1.len))
        refine bodyPost_ret (v := .agg #[.bool (decide (0 < ks.length)), .slice a1 ks.length c1]) (by simp [results, Tryz.results45, go_sem, r0, r1]) rfl ⟨decide (0 < ks.length), _, ks, rfl, ⟨hl1.store2 hrow, ht1, sv_mul HEQ.out.1 HEQ.out.2 (he1.trans HE.out) ht1, fun h h0 => by rw [h0] at h; simp at h⟩, ?_⟩
        exact ((hWb.trans (hbel.mono hWb.size)).setCell (by simp; omega) _).setCell (by simp; omega) _
      · go_wp2_with (go_at_call 61; go_must (refine (trim_any _ os _ hlim).mono ?_; rintro e w1 ⟨v1, ks, rfl, hl1, ht1, he1, rfl⟩; obtain ⟨a1, c1, hv1, _⟩ := hl1.form; subst hv1))
        refine bodyPost_ret (v := .agg #[.bool false, .slice a1 ks.length c1]) (by simp [results, Tryz.results45, go_sem, r0, r1]) rfl ⟨false, _, ks, rfl, ⟨hl1.store2 hrow, ht1, sv_mul HEQ.out.1 HEQ.out.2 (he1.trans HE.out) ht1, fun h => by cases h⟩, ?_⟩
        exact ((hWb.trans (hbel.mono hWb.size)).setCell (by simp; omega) _).setCell (by simp; omega) _

/-- 'Times'. -/
theorem times_bg (na nb : Bool) (va vb : Value) (la lb : List Nat) (x y : Int) (w : World) (ha : Bg w na va la x) (hb : Bg w nb vb lb y) (hsa : Small x) (hsb : Small y) :
    Calls Tryz.prog 45 #[.agg #[.bool na, va], .agg #[.bool nb, vb]] w fun e w' => ∃ nc vc lc, e = .returned (.agg #[.bool nc, vc]) ∧ Bg w' nc vc lc (x * y) ∧ Below w.heap.size w w' := by
  have h1 := ha.len hsa
  have h2 := hb.len hsb
  obtain ⟨ao, c, rfl, hca⟩ := ha.lim.form
  obtain ⟨bo, d, rfl, hcb⟩ := hb.lim.form
  exact times_walk na nb ao bo _ _ c d la lb x y w ha hb rfl rfl h1 h2 hca hcb

end Go.Proofs.YtbjjkfmdkmbcfaaGreat
