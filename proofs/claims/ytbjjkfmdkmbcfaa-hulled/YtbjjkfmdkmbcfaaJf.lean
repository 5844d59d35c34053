import Derived.Test.YtbjjkfmdkmbcfaaJe
import Derived.Deep.DeepCutAuto
import Derived.Deep.CutBlock
namespace Go.Proofs.Ytbjjkfmdkmbcfaa
open Go.Shelf Go.RowKit Go.Lib Go.Sort
open PlRd (sgn)
open HL (Pt cr lx popW chainR hullL)

attribute [local go_sem ↓] Go.wp_at_zero Go.wp_at_succ

/-- What is asked of the corners. -/
structure HF (ss : List (Int × Int)) (ps : List (Nat × Nat)) (xs : List Nat) (rg : List (Nat × Nat)) : Prop where
  len : xs.length ≤ ps.length
  zero : xs.length = 0 ↔ ps.length = 0
  mem : ∀ j (h : j < xs.length), xs[j] < ps.length
  ring : rg = xs.map fun x => ps.getD x (0, 0)
  dist : ∀ i (hi : i < xs.length) j (hj : j < i), ps.getD (xs[j]'(by omega)) (0, 0) ≠ ps.getD xs[i] (0, 0)
  ins : ∀ t, t < ps.length → 0 ≤ insV (crdX rg) rg.length (crd (ps.getD t (0, 0)).1, crd (ps.getD t (0, 0)).2)
  side : ∀ t, t < ps.length → ∀ j, j < rg.length → 0 ≤ sgn (turnV (rg.getD j (0, 0)) (rg.getD ((j + 1) % rg.length) (0, 0)) (ps.getD t (0, 0)))
  left : 2 < rg.length → ∀ j, j < rg.length → sgn (turnV (rg.getD j (0, 0)) (rg.getD ((j + 1) % rg.length) (0, 0)) (rg.getD ((j + 2) % rg.length) (0, 0))) = 1
  first : ∀ t, t < ps.length → ∀ x0, xs[0]? = some x0 → ¬ (bentI (ss.getD t (0, 0)).1 < bentI (ss.getD x0 (0, 0)).1 ∨ (bentI (ss.getD t (0, 0)).1 = bentI (ss.getD x0 (0, 0)).1 ∧ bentI (ss.getD t (0, 0)).2 < bentI (ss.getD x0 (0, 0)).2))

set_option maxHeartbeats 8000000 in
set_option maxRecDepth 100000 in
theorem hulled_walk (va : Option Addr) (n c m : Nat) (pw k : Int) (ss : List (Int × Int)) (w : World) (hm : m = min n 60) (hs : SsAt w va n ss) (hn : n ≤ 8796093021952) (hsc : ScR pw k) (hI : ∀ t, t < n → I64 (ss.getD t (0, 0)).1 ∧ I64 (ss.getD t (0, 0)).2) (hk : -100 ≤ k ∧ k ≤ 87)
    (HFS : ∀ ps, BtL ss k ps → ∀ o, Srt (crdX ps) ps.length o → ∃ rg, HF ss ps (hullL (crdX ps) (ordL (crdX ps) o)) rg) :
    Calls Try.prog 8 #[.slice va n c, .int .i64 pw] w fun e w' => e = .returned (.bool true) ∧ Below w.heap.size w w' := by
  obtain ⟨i0, hi, hz0, hz1, hz2⟩ := info_parts infoPt
  have HS : Hid (SsAt w va n ss) := hs
  have HFF : Hid (∀ ps, BtL ss k ps → ∀ o, Srt (crdX ps) ps.length o → ∃ rg, HF ss ps (hullL (crdX ps) (ordL (crdX ps) o)) rg) := HFS
  have HII : Hid (∀ t, t < n → I64 (ss.getD t (0, 0)).1 ∧ I64 (ss.getD t (0, 0)).2) := hI
  have HKK : Hid (-100 ≤ k ∧ k ≤ 87) := hk
  have HMM : Hid (m = min n 60) := hm
  clear hs HFS hI hk hm
  go_enter Try.func8, Try.ntmps8
  go_upto_block 0 with (first | (go_at_call 9; go_must (refine (known_any _).mono ?_; rintro e wk ⟨rfl, hbk⟩)) | (go_at_call 13; go_must (refine (ScR.use hsc _).mono ?_; rintro e w1 ⟨rfl, hw1⟩; have hw1 := hw1.symm; subst hw1)))
  clear hsc
  obtain ⟨W, hW⟩ : ∃ z, z = wk := ⟨_, rfl⟩
  subst hW
  have hwW := hbk
  clear hbk
  go_cut [7] (fun s7 wc => ∃ ps, PV wc W.heap.size s7 ps ∧ ps.length = m ∧ BtL ss k ps ∧ Below W.heap.size W wc)
  case first =>
    go_wp2_with fail
    go_loopw [7, 8] (fun s7 s8 wr => ∃ (t : Nat) (ps : List (Nat × Nat)), s8 = .int .i64 t ∧ t ≤ n ∧ t ≤ 60 ∧ PV wr W.heap.size s7 ps ∧ ps.length = t ∧ BtL ss k ps ∧ Below W.heap.size W wr) (fun _ s8 _ => 60 - (intOf s8).toNat)
    case atStart => exact ⟨0, [], rfl, Nat.zero_le _, Nat.zero_le _, PV.nil _ _, rfl, fun t ht => by simp at ht, Below.refl _ _⟩
    case round =>
      obtain ⟨t, ps, rfl, ht, ht6, hP, hl, hB, hbel⟩ := hrel
      by_cases hlt : t < n
      · by_cases h60 : t < 60
        · rcases HS.out with h0 | ⟨sb, so, rfl, hsb, hcs⟩
          · omega
          obtain ⟨x, hx⟩ : ∃ x, x = (ss.getD t (0, 0)).1 := ⟨_, rfl⟩
          obtain ⟨y, hy⟩ : ∃ y, y = (ss.getD t (0, 0)).2 := ⟨_, rfl⟩
          have hI := HII.out t hlt
          have hc := hcs t hlt
          rw [← hx, ← hy] at hI hc
          have hPt : PtR x y k (bentI x) (bentI y) := point_r hI.1 hI.2 HKK.out
          have HB : Hid (BtL ss k ps) := hB
          have HX : Hid (x = (ss.getD ps.length (0, 0)).1 ∧ y = (ss.getD ps.length (0, 0)).2) := by rw [hl]; exact ⟨hx, hy⟩
          obtain ⟨o7, c7, hv7⟩ := hP.form
          rw [hl] at hv7
          subst hv7
          have HP : Hid (PV wr W.heap.size (.slice o7 t c7) ps) := hP
          have hsz := hbel.size
          have hwz := hwW.size
          have hcr : wr.cell? ⟨sb, so + t * 2, none⟩ = some (.int .i64 x) ∧ wr.cell? ⟨sb, so + t * 2 + 1, none⟩ = some (.int .i64 y) := by
            have hb9 : Below w.heap.size w wr := hwW.trans (hbel.mono hwz)
            rw [hb9.cell (p := ⟨sb, so + t * 2, none⟩) hsb, hb9.cell (p := ⟨sb, so + t * 2 + 1, none⟩) hsb]
            exact hc
          have hsbr : sb < wr.heap.size := by omega
          clear hx hy hI hc hcs hB hP
          go_wp2_with (first | (go_at_call 14; go_must (refine (PtR.use hPt _).mono ?_; rintro e w1 ⟨bx, by', rfl, hbx, hby, hb1⟩)) | (at_builtin; go_must (refine wpList_append_own _ rfl _ _ 43 rfl W.heap.size 24 i0 _ 2 16 Try.underlying43 hi hz0 hz1 hz2 rfl (by decide) _ t (ptCells ps) rfl (PV.ofLen hl (HP.out.kept (below_alloc _ hb1))) ⟨_, 0, none⟩ 1 1 [.int .u64 bx, .int .u64 by'] rfl rfl (cells_two (by simp [go_sem]) (by simp [go_sem])) (by intro u hu; simp at hu; rcases hu with rfl | rfl <;> rfl) (by unfold maxLen; omega) (by omega) (by have := hb1.size; simp; omega) ?_; intro v' w2 h1 h2 _)))
          have hb2 : ∀ ob, Below W.heap.size W (w1.alloc ob) := fun ob => hbel.trans ((below_alloc ob hb1).mono hsz)
          have hend := PV.push hl (HP.out.kept (below_alloc _ hb1)) h1 h2 (hb2 _) (by have := hb1.size; simp; omega)
          clear h1 h2 hb2
          have hBt : BtL ss k (ps ++ [(bx, by')]) := HB.out.snoc (by rw [← HX.out.1]; exact hbx) (by rw [← HX.out.2]; exact hby)
          go_roundw
          case rel => exact ⟨t + 1, _, by go_num, by omega, by omega, hend.1, by simp [hl], hBt, hend.2⟩
          case measure => simp [intOf]; omega
        · have hm6 : m = 60 := by have := HMM.out; omega
          go_wp2
          go_meet
          exact ⟨ps, hP, by omega, hB, hbel⟩
      · have hmn : m = n := by have := HMM.out; omega
        go_wp2
        go_meet
        exact ⟨ps, hP, by omega, hB, hbel⟩
  case rest =>
  obtain ⟨ps, hP, hlp, hB, hnW⟩ := hcut
  have hwP := hwW.trans (hnW.mono hwW.size)
  have hm60 : m ≤ 60 ∧ m ≤ n := by have := HMM.out; omega
  obtain ⟨V, hV⟩ : ∃ z, z = wc := ⟨_, rfl⟩
  subst hV
  have hsl := hP.sl
  obtain ⟨o7, c7, hv7⟩ := hP.form
  rw [hlp] at hsl hv7
  subst hv7
  have h64 := hB.lt
  have hok := hB.ok
  have HU : Hid (Calls Try.prog 22 #[.slice o7 m c7] V fun e w' => ∃ o u, Srt (crdX ps) m o ∧ e = .returned (.tuple #[u, .int .i64 0]) ∧ CV w' V.heap.size u (hullL (crdX ps) (ordL (crdX ps) o)) ∧ Below V.heap.size V w') := hullE_ok _ m ps V hsl hlp (by omega) h64 hok
  go_upto_region 9 with (go_at_call 22; go_must (refine HU.out.mono ?_; rintro e V2 ⟨o, u, ho, rfl, hC, hb2⟩))
  rw [← hlp] at ho
  obtain ⟨rg, HF1⟩ := HFF.out ps hB o ho
  clear HU ho hsl HFF
  generalize hullL (crdX ps) (ordL (crdX ps) o) = xs at *
  obtain ⟨q, hq⟩ : ∃ q, q = xs.length := ⟨_, rfl⟩
  obtain ⟨o9, c9, hv9⟩ := hC.form
  rw [← hq] at hv9
  subst hv9
  have hqm : q ≤ m := by have := HF1.len; omega
  have hq0 : q = 0 ↔ m = 0 := by have := HF1.zero; omega
  have hwV : Below w.heap.size w V2 := hwP.trans (hb2.mono hwP.size)
  have hP2 := hP.kept hb2
  have HPV : Hid (PV V2 W.heap.size (.slice o7 m c7) ps) := hP2
  have HCV : Hid (CV V2 V.heap.size (.slice o9 q c9) xs) := hC
  have HFX : Hid (HF ss ps xs rg) := HF1
  have HBB : Hid (BtL ss k ps) := hB
  have HLP : Hid (ps.length = m) := hlp
  have HLQ : Hid (xs.length = q) := hq.symm
  clear HF1 hC hP2 hB hP hnW hlp hq
  by_cases h0 : m = 0
  · have h1 := hq0.2 h0
    clear hq0 hqm
    subst h0 h1
    clear h64 hok
    go_wp2
    refine wp_loop_rounds 1 ?_
    rw [rounds_succ]
    go_wp2
    refine wp_loop_rounds 1 ?_
    rw [rounds_succ]
    go_wp2
    refine wp_loop_rounds 1 ?_
    rw [rounds_succ]
    go_wp2
    go_ret
    exact ⟨rfl, hwV⟩
  have hq1 : q ≠ 0 := fun h => h0 (hq0.1 h)
  clear hq0
  obtain ⟨g7, hg7⟩ : ∃ g7, o7 = some ⟨g7, 0, none⟩ ∧ g7 < V2.heap.size ∧ PtsAt V2 g7 0 ps := by
    obtain ⟨g, c', h1, _, h2, h3⟩ := HPV.out.cells (by rw [HLP.out]; exact h0)
    simp only [Value.slice.injEq] at h1
    exact ⟨g, h1.1, h2, h3⟩
  obtain ⟨rfl, hg7, hp7⟩ := hg7
  obtain ⟨g9, hg9⟩ : ∃ g9, o9 = some ⟨g9, 0, none⟩ ∧ g9 < V2.heap.size ∧ ∀ j (hj : j < xs.length), V2.cell? ⟨g9, j, none⟩ = some (.int .i64 (xs[j] : Nat)) := by
    obtain ⟨g, c', h1, _, _, _, h2, _⟩ := HCV.out.full (by intro h; have := HLQ.out; rw [h] at this; simp at this; omega)
    simp only [Value.slice.injEq] at h1
    refine ⟨g, h1.1, ?_, h2⟩
    have h3 := HCV.out
    rw [h1.1] at h3
    exact h3.holds.2.2.1
  obtain ⟨rfl, hg9, hx9⟩ := hg9
  have HP7 : Hid (PtsAt V2 g7 0 ps) := hp7
  have HX9 : Hid (∀ j (hj : j < xs.length), V2.cell? ⟨g9, j, none⟩ = some (.int .i64 (xs[j] : Nat))) := hx9
  clear hp7 hx9
  clear HPV HCV
  have hqb : ((q : Int) == 0) = false := by simp; omega
  have hmb : ((m : Int) == 0) = false := by simp; omega
  go_upto_region 10 with fail
  go_cut [74] (fun s74 wx => s74 = .bool false ∧ wx = V2)
  case first =>
    go_wp2_with fail
    go_meet
    exact ⟨congrArg Value.bool (decide_eq_false (by omega)), rfl⟩
  case rest =>
  obtain ⟨rfl, hVV⟩ := hcut
  have hVV := hVV.symm
  subst hVV
  clear hqb hmb
  go_upto_block 2 with fail
  go_cut [12] (fun s12 wc => ∃ o12 c12, s12 = .slice o12 q c12 ∧ PV wc V2.heap.size (.slice o12 q c12) rg ∧ Below V2.heap.size V2 wc)
  case first =>
    have hlr : rg.length = q := by rw [HFX.out.ring, List.length_map, HLQ.out]
    have HLR : Hid (rg.length = q) := hlr
    clear hlr
    go_wp2_with fail
    go_loopg [12, 13] q (fun g s12 s13 wr => ∃ (t : Nat) (o12 : Option Addr) (c12 : Nat), t + g = q ∧ s13 = .int .i64 t ∧ s12 = .slice o12 t c12 ∧ PV wr V2.heap.size s12 (rg.take t) ∧ Below V2.heap.size V2 wr)
    case atStart => exact ⟨0, none, 0, Nat.zero_add _, rfl, rfl, PV.nil _ _, Below.refl _ _⟩
    case round =>
      obtain ⟨t, o12, c12, htg, rfl, rfl, hP, hbel⟩ := hrel
      have ht : t ≤ q := by omega
      by_cases hlt : t < q
      · obtain ⟨x, hx⟩ : ∃ x, x = xs[t]'(by rw [HLQ.out]; exact hlt) := ⟨_, rfl⟩
        have hxm : x < m := by have := HFX.out.mem t (by rw [HLQ.out]; exact hlt); rw [← hx, HLP.out] at this; exact this
        obtain ⟨⟨px, py⟩, hp⟩ : ∃ p, p = ps.getD x (0, 0) := ⟨_, rfl⟩
        have HXX : Hid (x = xs[t]'(by rw [HLQ.out]; exact hlt)) := hx
        have HPP : Hid ((px, py) = ps.getD x (0, 0)) := hp
        have KS : ∀ w', Below V2.heap.size V2 w' → w'.cell? ⟨g9, t, none⟩ = some (.int .i64 (x : Nat)) ∧ w'.cell? ⟨g7, x * 2, none⟩ = some (.int .u64 (px : Nat)) ∧ w'.cell? ⟨g7, x * 2 + 1, none⟩ = some (.int .u64 (py : Nat)) := by
          intro w' hb
          obtain ⟨hc, _⟩ := bcell hb
          have h9 := HX9.out t (by rw [HLQ.out]; exact hlt)
          have h7 := HP7.out x (by rw [HLP.out]; exact hxm)
          rw [← hp] at h7
          rw [Nat.zero_add] at h7
          rw [hc _ _ hg9, hc _ _ hg7, hc _ _ hg7, hx]
          rw [hx] at h7
          exact ⟨h9, h7⟩
        clear hx hp
        have hS := KS wr hbel
        have hsz := hbel.size
        have hg7r : g7 < wr.heap.size := by omega
        have hg9r : g9 < wr.heap.size := by omega
        have htl : (rg.take t).length = t := by have := HLR.out; simp; omega
        have HP : Hid (PV wr V2.heap.size (.slice o12 t c12) (rg.take t)) := hP
        clear hP
        go_upto_block 4 with (at_builtin; go_must (refine wpList_append_own _ rfl _ _ 43 rfl V2.heap.size 24 i0 _ 2 16 Try.underlying43 hi hz0 hz1 hz2 rfl (by decide) _ t (ptCells (rg.take t)) rfl (PV.ofLen htl (HP.out.kept (below_alloc _ (Below.refl _ _)))) ⟨_, 0, none⟩ 1 1 [.int .u64 px, .int .u64 py] rfl rfl (cells_two (by simp [go_sem]) (by simp [go_sem])) (by intro u hu; simp at hu; rcases hu with rfl | rfl <;> rfl) (by unfold maxLen; omega) (by omega) (by simp; omega) ?_; intro v' w2 h1 h2 _))
        have hend := PV.push htl (HP.out.kept (below_alloc _ (Below.refl _ _))) h1 h2 (below_alloc _ hbel) (by simp; omega)
        clear h1 h2 HP
        have HTK : Hid (rg.take (t + 1) = rg.take t ++ [(px, py)]) := by
          have h9 : t < rg.length := by rw [HLR.out]; exact hlt
          unfold Hid
          rw [List.take_add_one, List.getElem?_eq_getElem h9, Option.toList_some, HPP.out]
          congr 2
          have h8 : rg[t]? = some (ps.getD x (0, 0)) := by
            rw [HFX.out.ring, List.getElem?_map, List.getElem?_eq_getElem (by rw [HLQ.out]; exact hlt), HXX.out]
            rfl
          rw [List.getElem?_eq_getElem h9] at h8
          exact Option.some.inj h8
        rw [← HTK.out] at hend
        obtain ⟨hPe, hbe⟩ := hend
        obtain ⟨oe, ce, hve⟩ := hPe.form
        have htl1 : (rg.take (t + 1)).length = t + 1 := by have := HLR.out; simp; omega
        rw [htl1] at hve
        subst hve
        have HPE : Hid (PV w2 V2.heap.size (.slice oe (t + 1) ce) (rg.take (t + 1))) := hPe
        clear hPe hS hsz hg7r hg9r htl htl1 hbel
        go_wp2_with fail
        go_loopw [14] (fun s14 wr2 => ∃ (j : Nat), s14 = .int .i64 j ∧ j ≤ t ∧ Below w2.heap.size w2 wr2) (fun s14 _ => t - (intOf s14).toNat)
        case atStart => exact ⟨0, rfl, Nat.zero_le _, Below.refl _ _⟩
        case round =>
          obtain ⟨j, rfl, hj, hb3⟩ := hrel
          have hb4 : Below V2.heap.size V2 wr := hbe.trans (hb3.mono hbe.size)
          by_cases hjt : j < t
          · obtain ⟨y, hy⟩ : ∃ y, y = xs[j]'(by rw [HLQ.out]; omega) := ⟨_, rfl⟩
            have hym : y < m := by have := HFX.out.mem j (by rw [HLQ.out]; omega); rw [← hy, HLP.out] at this; exact this
            obtain ⟨⟨qx, qy⟩, hq⟩ : ∃ p, p = ps.getD y (0, 0) := ⟨_, rfl⟩
            have hne : ¬ (qx = px ∧ qy = py) := by
              have h9 := HFX.out.dist t (by rw [HLQ.out]; exact hlt) j hjt
              rw [← hy, ← HXX.out, ← hq, ← HPP.out] at h9
              rintro ⟨rfl, rfl⟩
              exact h9 rfl
            have hS := KS wr hb4
            have hsz := hb4.size
            have hg7r : g7 < wr.heap.size := by omega
            have hg9r : g9 < wr.heap.size := by omega
            have hS2 : wr.cell? ⟨g9, j, none⟩ = some (.int .i64 (y : Nat)) ∧ wr.cell? ⟨g7, y * 2, none⟩ = some (.int .u64 (qx : Nat)) ∧ wr.cell? ⟨g7, y * 2 + 1, none⟩ = some (.int .u64 (qy : Nat)) := by
              obtain ⟨hc, _⟩ := bcell hb4
              have h9 := HX9.out j (by rw [HLQ.out]; omega)
              have h7 := HP7.out y (by rw [HLP.out]; exact hym)
              rw [← hq, Nat.zero_add] at h7
              rw [hc _ _ hg9, hc _ _ hg7, hc _ _ hg7, hy]
              rw [hy] at h7
              exact ⟨h9, h7⟩
            clear hy hq
            have hjq : (j : Int) < (q : Int) := by omega
            have htq : (t : Int) < (q : Int) := by omega
            have hbd : Below w2.heap.size w2 wr.drew := hb3.drew
            by_cases e1 : qx = px
            · have e2 : ¬ qy = py := fun e2 => hne ⟨e1, e2⟩
              clear hne
              subst e1
              have e3 : ¬ (qy : Int) = (py : Int) := by omega
              go_wp2_with fail
              go_region_held3 (fun w' : World => (w'.cell? ⟨g9, t, none⟩ = some (.int .i64 (x : Nat)) ∧ w'.cell? ⟨g7, x * 2, none⟩ = some (.int .u64 (qx : Nat)) ∧ w'.cell? ⟨g7, x * 2 + 1, none⟩ = some (.int .u64 (py : Nat))) ∧ (w'.cell? ⟨g9, j, none⟩ = some (.int .i64 (y : Nat)) ∧ w'.cell? ⟨g7, y * 2, none⟩ = some (.int .u64 (qx : Nat)) ∧ w'.cell? ⟨g7, y * 2 + 1, none⟩ = some (.int .u64 (qy : Nat)))) (exact ⟨hS, hS2⟩) (fail)
              all_goals
                go_wp2
                go_roundw
                case rel => exact ⟨j + 1, by go_num, by omega, hbd⟩
                case measure => simp [intOf]; omega
            · clear hne
              have e3 : ¬ (qx : Int) = (px : Int) := by omega
              go_wp2_with fail
              go_region_held3 (fun w' : World => (w'.cell? ⟨g9, t, none⟩ = some (.int .i64 (x : Nat)) ∧ w'.cell? ⟨g7, x * 2, none⟩ = some (.int .u64 (px : Nat)) ∧ w'.cell? ⟨g7, x * 2 + 1, none⟩ = some (.int .u64 (py : Nat))) ∧ (w'.cell? ⟨g9, j, none⟩ = some (.int .i64 (y : Nat)) ∧ w'.cell? ⟨g7, y * 2, none⟩ = some (.int .u64 (qx : Nat)) ∧ w'.cell? ⟨g7, y * 2 + 1, none⟩ = some (.int .u64 (qy : Nat)))) (exact ⟨hS, hS2⟩) (fail)
              all_goals
                go_wp2
                go_roundw
                case rel => exact ⟨j + 1, by go_num, by omega, hbd⟩
                case measure => simp [intOf]; omega
          · have hjt : j = t := by omega
            subst hjt
            have hPf := HPE.out.kept hb3
            go_wp2_with fail
            go_roundg (q - (j + 1))
            case measure => omega
            case rel => exact ⟨j + 1, oe, ce, by omega, by go_num, rfl, hPf, hb4⟩
      · have htq : t = q := by omega
        subst htq
        rw [List.take_of_length_le (by rw [HLR.out]; exact Nat.le_refl _)] at hP
        go_wp2
        go_meet
        exact ⟨_, _, rfl, hP, hbel⟩
  case rest =>
  obtain ⟨o12, c12, rfl, hR, hb3⟩ := hcut
  have hlr : rg.length = q := by rw [HFX.out.ring, List.length_map, HLQ.out]
  have HLR : Hid (rg.length = q) := hlr
  obtain ⟨V3, hV3⟩ : ∃ z, z = wc := ⟨_, rfl⟩
  subst hV3
  have hwV3 : Below w.heap.size w V3 := hwV.trans (hb3.mono hwV.size)
  obtain ⟨g12, hg12⟩ : ∃ g12, o12 = some ⟨g12, 0, none⟩ ∧ g12 < V3.heap.size ∧ PtsAt V3 g12 0 rg := by
    obtain ⟨g, c', h1, _, h2, h3⟩ := hR.cells (by rw [hlr]; exact hq1)
    simp only [Value.slice.injEq] at h1
    exact ⟨g, h1.1, h2, h3⟩
  obtain ⟨rfl, hg12, hp12⟩ := hg12
  have HP12 : Hid (PtsAt V3 g12 0 rg) := hp12
  have HSL : Hid (SlAt V3 (.slice (some ⟨g12, 0, none⟩) q c12) q rg) := by
    have := hR.sl
    rw [hlr] at this
    exact this
  have hs3 := hb3.size
  have hg7' : g7 < V3.heap.size := by omega
  have hg9' : g9 < V3.heap.size := by omega
  have KA : ∀ t, t < m → ∀ w', Below V3.heap.size V3 w' → w'.cell? ⟨g7, t * 2, none⟩ = some (.int .u64 ((ps.getD t (0, 0)).1 : Nat)) ∧ w'.cell? ⟨g7, t * 2 + 1, none⟩ = some (.int .u64 ((ps.getD t (0, 0)).2 : Nat)) := by
    intro t ht w' hb
    obtain ⟨hc, _⟩ := bcell hb
    obtain ⟨hc3, _⟩ := bcell hb3
    have h7 := HP7.out t (by rw [HLP.out]; exact ht)
    rw [Nat.zero_add] at h7
    rw [hc _ _ hg7', hc _ _ hg7', hc3 _ _ hg7, hc3 _ _ hg7]
    exact h7
  have KR : ∀ t, t < q → ∀ w', Below V3.heap.size V3 w' → w'.cell? ⟨g12, t * 2, none⟩ = some (.int .u64 ((rg.getD t (0, 0)).1 : Nat)) ∧ w'.cell? ⟨g12, t * 2 + 1, none⟩ = some (.int .u64 ((rg.getD t (0, 0)).2 : Nat)) := by
    intro t ht w' hb
    obtain ⟨hc, _⟩ := bcell hb
    have h7 := HP12.out t (by rw [HLR.out]; exact ht)
    rw [Nat.zero_add] at h7
    rw [hc _ _ hg12, hc _ _ hg12]
    exact h7
  have hpt : ∀ t, t < m → mayB (ps.getD t (0, 0)).1 = true ∧ mayB (ps.getD t (0, 0)).2 = true ∧ (ps.getD t (0, 0)).1 < 2 ^ 64 ∧ (ps.getD t (0, 0)).2 < 2 ^ 64 := fun t ht => by
    have h9 := HBB.out t (by rw [HLP.out]; exact ht)
    exact ⟨h9.1.may, h9.2.may, h9.1.lt, h9.2.lt⟩
  have hrt : ∀ j, j < q → mayB (rg.getD j (0, 0)).1 = true ∧ mayB (rg.getD j (0, 0)).2 = true ∧ (rg.getD j (0, 0)).1 < 2 ^ 64 ∧ (rg.getD j (0, 0)).2 < 2 ^ 64 := fun j hj => by
    have h9 : j < xs.length := by rw [HLQ.out]; exact hj
    have h8 : rg.getD j (0, 0) = ps.getD xs[j] (0, 0) := by
      rw [HFX.out.ring, List.getD_eq_getElem?_getD, List.getElem?_map, List.getElem?_eq_getElem h9]
      rfl
    rw [h8]
    exact hpt _ (by have := HFX.out.mem j h9; rw [HLP.out] at this; exact this)
  have hrok : okPts rg = true ∧ ∀ p ∈ rg, p.1 < 2 ^ 64 ∧ p.2 < 2 ^ 64 := by
    constructor
    · unfold okPts
      rw [List.all_eq_true]
      intro p hp
      obtain ⟨t, ht, rfl⟩ := mem_getD hp
      have h9 := hrt t (by rw [← hlr]; exact ht)
      rw [h9.1, h9.2.1]
      rfl
    · intro p hp
      obtain ⟨t, ht, rfl⟩ := mem_getD hp
      have h9 := hrt t (by rw [← hlr]; exact ht)
      exact h9.2.2
  have HKA : Hid (∀ t, t < m → ∀ w', Below V3.heap.size V3 w' → w'.cell? ⟨g7, t * 2, none⟩ = some (.int .u64 ((ps.getD t (0, 0)).1 : Nat)) ∧ w'.cell? ⟨g7, t * 2 + 1, none⟩ = some (.int .u64 ((ps.getD t (0, 0)).2 : Nat))) := KA
  have HKR : Hid (∀ t, t < q → ∀ w', Below V3.heap.size V3 w' → w'.cell? ⟨g12, t * 2, none⟩ = some (.int .u64 ((rg.getD t (0, 0)).1 : Nat)) ∧ w'.cell? ⟨g12, t * 2 + 1, none⟩ = some (.int .u64 ((rg.getD t (0, 0)).2 : Nat))) := KR
  have HPT : Hid (∀ t, t < m → mayB (ps.getD t (0, 0)).1 = true ∧ mayB (ps.getD t (0, 0)).2 = true ∧ (ps.getD t (0, 0)).1 < 2 ^ 64 ∧ (ps.getD t (0, 0)).2 < 2 ^ 64) := hpt
  have HRT : Hid (∀ j, j < q → mayB (rg.getD j (0, 0)).1 = true ∧ mayB (rg.getD j (0, 0)).2 = true ∧ (rg.getD j (0, 0)).1 < 2 ^ 64 ∧ (rg.getD j (0, 0)).2 < 2 ^ 64) := hrt
  have HRO : Hid (okPts rg = true ∧ ∀ p ∈ rg, p.1 < 2 ^ 64 ∧ p.2 < 2 ^ 64) := hrok
  have HX3 : Hid (∀ j (hj : j < xs.length), ∀ w', Below V3.heap.size V3 w' → w'.cell? ⟨g9, j, none⟩ = some (.int .i64 (xs[j] : Nat))) := fun j hj w' hb => by
    obtain ⟨hc, _⟩ := bcell hb
    obtain ⟨hc3, _⟩ := bcell hb3
    rw [hc _ _ hg9', hc3 _ _ hg9]
    exact HX9.out j hj
  obtain ⟨sb, so, rfl, hsb, HCS⟩ : ∃ sb so, va = some ⟨sb, so, none⟩ ∧ sb < w.heap.size ∧ Hid (∀ t, t < n → w.cell? ⟨sb, so + t * 2, none⟩ = some (.int .i64 (ss.getD t (0, 0)).1) ∧ w.cell? ⟨sb, so + t * 2 + 1, none⟩ = some (.int .i64 (ss.getD t (0, 0)).2)) := by
    rcases HS.out with h | ⟨sb, so, h1, h2, h3⟩
    · omega
    · exact ⟨sb, so, h1, h2, h3⟩
  have hw3 := hwV3.size
  have hsb3 : sb < V3.heap.size := by omega
  have HKL : Hid (∀ t, t < m → ∀ w', Below V3.heap.size V3 w' → w'.cell? ⟨sb, so + t * 2, none⟩ = some (.int .i64 (ss.getD t (0, 0)).1) ∧ w'.cell? ⟨sb, so + t * 2 + 1, none⟩ = some (.int .i64 (ss.getD t (0, 0)).2)) := fun t ht w' hb => by
    obtain ⟨hc, _⟩ := bcell hb
    obtain ⟨hc3, _⟩ := bcell hwV3
    rw [hc _ _ hsb3, hc _ _ hsb3, hc3 _ _ hsb, hc3 _ _ hsb]
    exact HCS.out t (by omega)
  clear KA KR hpt hrt hrok hp12 hR hlr HS HCS HX9 HP7 HP12 hb3 hwV hwP hb2 hg7 hg9 hs3 h64 hok
  have hqz : ¬ (q : Int) = 0 := by omega
  go_upto_block 6 with fail
  go_cut [15] (fun s15 wc => Below V3.heap.size V3 wc)
  case first =>
    go_wp2_with fail
    go_loopg [15] m (fun g s15 wr => ∃ t, t + g = m ∧ s15 = .int .i64 (t : Nat) ∧ Below V3.heap.size V3 wr)
    case atStart => exact ⟨0, Nat.zero_add _, rfl, Below.refl _ _⟩
    case round =>
      obtain ⟨t, htg, rfl, hbel⟩ := hrel
      by_cases hlt : t < m
      · obtain ⟨⟨ax, ay⟩, hp⟩ : ∃ p, p = ps.getD t (0, 0) := ⟨_, rfl⟩
        have KA := HKA.out t hlt
        have hpt := HPT.out t hlt
        obtain ⟨iv, hiv⟩ : ∃ iv, iv = insV (crdX rg) q (crd ax, crd ay) := ⟨_, rfl⟩
        have hiv0 : 0 ≤ iv := by
          have h9 := HFX.out.ins t (by rw [HLP.out]; exact hlt)
          rw [← hp, HLR.out] at h9
          rw [hiv]
          exact h9
        rw [← hp] at KA hpt
        simp only at KA hpt
        have HIN : Hid (∀ U, Below V3.heap.size V3 U → Calls Try.prog 23 #[.slice (some ⟨g12, 0, none⟩) q c12, .agg #[.int .u64 ax, .int .u64 ay]] U fun e w' => Below U.heap.size U w' ∧ e = .returned (.tuple #[.int .i64 iv, .int .i64 0])) := fun U hU => by
          rw [hiv]
          refine insideE_ok _ q rg ax ay U (HSL.out.kept hU) HLR.out (by omega) HRO.out.2 HRO.out.1 ?_ ?_
          · intro p hp9
            simp at hp9
            subst hp9
            exact hpt.2.2
          · simp [okPts, hpt.1, hpt.2.1]
        have HPP : Hid ((ax, ay) = ps.getD t (0, 0)) := hp
        have HMA : Hid (mayB ax = true ∧ mayB ay = true ∧ ax < 2 ^ 64 ∧ ay < 2 ^ 64) := hpt
        have hS := KA wr hbel
        have hsz := hbel.size
        have hg7r : g7 < wr.heap.size := by omega
        have hivn : ¬ iv < 0 := by omega
        clear hiv hp hpt
        go_upto_block 8 with (go_at_call 23; go_must (refine (HIN.out _ hbel).mono ?_; rintro e wI ⟨hbI, rfl⟩))
        have hbI' : Below V3.heap.size V3 wI := below_step hbI hbel
        clear hbI hbel hS hsz hg7r hiv0 hivn HIN
        go_wp2_with fail
        go_loopw [18] (fun s18 wr2 => ∃ j : Nat, s18 = .int .i64 j ∧ j ≤ q ∧ Below V3.heap.size V3 wr2) (fun s18 _ => q - (intOf s18).toNat)
        case atStart => exact ⟨0, rfl, Nat.zero_le _, hbI'⟩
        case round =>
          clear hbI'
          obtain ⟨j, rfl, hj, hb4⟩ := hrel
          by_cases hjq : j < q
          · obtain ⟨j', hj'⟩ : ∃ j', j' = (j + 1) % q := ⟨_, rfl⟩
            have hjm : j' < q := hj' ▸ Nat.mod_lt _ (by omega)
            have htm : Int.tmod ((j : Int) + 1) (q : Int) = (j' : Int) := by
              rw [hj', Int.tmod_eq_emod_of_nonneg (by omega)]
              simp
            obtain ⟨⟨bx, by'⟩, hpb⟩ : ∃ p, p = rg.getD j (0, 0) := ⟨_, rfl⟩
            obtain ⟨⟨cx, cy⟩, hpc⟩ : ∃ p, p = rg.getD j' (0, 0) := ⟨_, rfl⟩
            obtain ⟨sg, hsg⟩ : ∃ s, s = sgn (turnV (bx, by') (cx, cy) (ax, ay)) := ⟨_, rfl⟩
            have hsg0 : ¬ sg < 0 := by
              have h9 := HFX.out.side t (by rw [HLP.out]; exact hlt) j (by rw [HLR.out]; exact hjq)
              rw [HLR.out, ← hj', ← hpb, ← hpc, ← HPP.out, ← hsg] at h9
              omega
            have hrb := HRT.out j hjq
            have hrc := HRT.out j' hjm
            have KB := HKR.out j hjq
            have KC := HKR.out j' hjm
            rw [← hpb] at hrb KB
            rw [← hpc] at hrc KC
            simp only at hrb hrc KB KC
            have hra := HMA.out
            have HO : Hid (∀ U, Calls Try.prog 10 #[.agg #[.int .u64 bx, .int .u64 by'], .agg #[.int .u64 cx, .int .u64 cy], .agg #[.int .u64 ax, .int .u64 ay]] U fun e w' => Below U.heap.size U w' ∧ e = .returned (.tuple #[.int .i64 sg, .int .i64 0])) := fun U => by
              rw [hsg]
              exact orient_ok bx by' cx cy ax ay U (l64_3 ⟨hrb.2.2.1, hrb.2.2.2⟩ ⟨hrc.2.2.1, hrc.2.2.2⟩ ⟨hra.2.2.1, hra.2.2.2⟩) (ok3 hrb.1 hrb.2.1 hrc.1 hrc.2.1 hra.1 hra.2.1)
            have KS : ∀ w', Below V3.heap.size V3 w' → (w'.cell? ⟨g12, j * 2, none⟩ = some (.int .u64 (bx : Nat)) ∧ w'.cell? ⟨g12, j * 2 + 1, none⟩ = some (.int .u64 (by' : Nat))) ∧ (w'.cell? ⟨g12, j' * 2, none⟩ = some (.int .u64 (cx : Nat)) ∧ w'.cell? ⟨g12, j' * 2 + 1, none⟩ = some (.int .u64 (cy : Nat))) ∧ (w'.cell? ⟨g7, t * 2, none⟩ = some (.int .u64 (ax : Nat)) ∧ w'.cell? ⟨g7, t * 2 + 1, none⟩ = some (.int .u64 (ay : Nat))) := fun w' hb => ⟨KB w' hb, KC w' hb, KA w' hb⟩
            have hS := KS wr hb4
            have hW9 := hb4
            have hjq2 : (j : Int) < (q : Int) := by omega
            have hjm2 : (j' : Int) < (q : Int) := by omega
            have htm2 : (t : Int) < (m : Int) := by omega
            have hwj : IntKind.i64.wrap ((j : Int) + 1) = (j : Int) + 1 := by rw [IntKind.wrap_i64]; omega
            have hwm : IntKind.i64.wrap (j' : Int) = (j' : Int) := by rw [IntKind.wrap_i64]; omega
            have hwt : IntKind.i64.wrap (Int.tmod ((j : Int) + 1) (q : Int)) = (j' : Int) := by rw [htm]; exact hwm
            have hj0 : (0 : Int) ≤ (j' : Int) := by omega
            clear hj' hpb hpc hsg hrb hrc hra KB KC
            go_wp2_with fail
            go_region_held3 (fun w' : World => (w'.cell? ⟨g12, j * 2, none⟩ = some (.int .u64 (bx : Nat)) ∧ w'.cell? ⟨g12, j * 2 + 1, none⟩ = some (.int .u64 (by' : Nat))) ∧ (w'.cell? ⟨g12, j' * 2, none⟩ = some (.int .u64 (cx : Nat)) ∧ w'.cell? ⟨g12, j' * 2 + 1, none⟩ = some (.int .u64 (cy : Nat))) ∧ (w'.cell? ⟨g7, t * 2, none⟩ = some (.int .u64 (ax : Nat)) ∧ w'.cell? ⟨g7, t * 2 + 1, none⟩ = some (.int .u64 (ay : Nat)))) (exact KS _ (by repeat (with_reducible first | refine Below.setCell ?_ (by first | (dsimp only; omega) | omega | (simp; done) | (simp; omega)) _ | refine below_alloc _ ?_ | refine Below.drew ?_ | exact hW9 | exact Below.refl _ _))) (first | (go_at_call 10; go_must (refine (HO.out _).mono ?_; rintro e wk ⟨hbk, rfl⟩; have hW9 : Below V3.heap.size V3 wk := below_step hbk (by repeat (with_reducible first | refine Below.setCell ?_ (by first | (dsimp only; omega) | omega | (simp; done) | (simp; omega)) _ | refine below_alloc _ ?_ | refine Below.drew ?_ | exact hW9 | exact Below.refl _ _)))))
            all_goals
              go_wp2
              go_roundw
              case rel => exact ⟨j + 1, by go_num, by omega, hW9⟩
              case measure => simp [intOf]; omega
          · have hjq2 : j = q := by omega
            obtain ⟨x0, hx0⟩ : ∃ x, x = xs[0]'(by have := HLQ.out; omega) := ⟨_, rfl⟩
            have hx0m : x0 < m := by have := HFX.out.mem 0 (by have := HLQ.out; omega); rw [← hx0, HLP.out] at this; exact this
            have K9 := HX3.out 0 (by have := HLQ.out; omega)
            rw [← hx0] at K9
            have KL := HKL.out t hlt
            have KM := HKL.out x0 hx0m
            have hf := HFX.out.first t (by rw [HLP.out]; exact hlt) x0 (by rw [hx0]; exact List.getElem?_eq_getElem _)
            have hIt := HII.out t (by omega)
            have hIx := HII.out x0 (by omega)
            clear hx0 KA
            generalize (ss.getD t (0, 0)).1 = ex at *
            generalize (ss.getD t (0, 0)).2 = ey at *
            generalize (ss.getD x0 (0, 0)).1 = fx at *
            generalize (ss.getD x0 (0, 0)).2 = fy at *
            have hA1 : AtR ex ey (bentI ex) (bentI ey) := at_r hIt.1 hIt.2
            have hA2 : AtR fx fy (bentI fx) (bentI fy) := at_r hIx.1 hIx.2
            clear hIt hIx
            generalize bentI ex = EX at *
            generalize bentI ey = EY at *
            generalize bentI fx = FX at *
            generalize bentI fy = FY at *
            have KS : ∀ w', Below V3.heap.size V3 w' → w'.cell? ⟨g9, 0, none⟩ = some (.int .i64 (x0 : Nat)) ∧ (w'.cell? ⟨sb, so + t * 2, none⟩ = some (.int .i64 ex) ∧ w'.cell? ⟨sb, so + t * 2 + 1, none⟩ = some (.int .i64 ey)) ∧ (w'.cell? ⟨sb, so + x0 * 2, none⟩ = some (.int .i64 fx) ∧ w'.cell? ⟨sb, so + x0 * 2 + 1, none⟩ = some (.int .i64 fy)) := fun w' hb => ⟨K9 w' hb, KL w' hb, KM w' hb⟩
            clear K9 KL KM
            have hS := KS wr hb4
            have hsz := hb4.size
            have hsbr : sb < wr.heap.size := by omega
            have hg9r : g9 < wr.heap.size := by omega
            have htn : (t : Int) < (n : Int) := by omega
            have hxn : (x0 : Int) < (n : Int) := by omega
            have hq0 : (0 : Int) < (q : Int) := by omega
            go_upto_region 37 with (go_at_call 15; go_must (refine (AtR.use hA1 _).mono ?_; rintro e wk ⟨rfl, hbk⟩))
            obtain ⟨bP, hbP⟩ : ∃ z, z = wk.heap.size := ⟨_, rfl⟩
            rw [← hbP]
            generalize hWd : World.alloc wk _ = WP
            have hnP : Below V3.heap.size V3 WP := by subst hWd; exact below_alloc _ (below_step hbk hb4)
            have hPP : bP < WP.heap.size ∧ WP.cell? ⟨bP, 0, none⟩ = some (.int .i64 EX) ∧ WP.cell? ⟨bP, 1, none⟩ = some (.int .i64 EY) := by
              subst hWd
              rw [hbP]
              exact ⟨by simp, by simp [go_sem], by simp [go_sem]⟩
            clear hWd hbP hbk hS hsbr hg9r hsz hb4
            clear wk
            have hS := KS WP hnP
            have hsz := hnP.size
            have hsbr : sb < WP.heap.size := by omega
            have hg9r : g9 < WP.heap.size := by omega
            go_upto_region 38 with (go_at_call 15; go_must (refine (AtR.use hA2 _).mono ?_; rintro e wk ⟨rfl, hbk⟩))
            obtain ⟨bQ, hbQ⟩ : ∃ z, z = wk.heap.size := ⟨_, rfl⟩
            rw [← hbQ]
            generalize hWd : World.alloc wk _ = WQ
            have hnQ : Below WP.heap.size WP WQ := by subst hWd; exact below_alloc _ hbk
            have hQQ : bQ < WQ.heap.size ∧ WQ.cell? ⟨bQ, 0, none⟩ = some (.int .i64 FX) ∧ WQ.cell? ⟨bQ, 1, none⟩ = some (.int .i64 FY) := by
              subst hWd
              rw [hbQ]
              exact ⟨by simp, by simp [go_sem], by simp [go_sem]⟩
            have hPQ : bP < WQ.heap.size ∧ WQ.cell? ⟨bP, 0, none⟩ = some (.int .i64 EX) ∧ WQ.cell? ⟨bP, 1, none⟩ = some (.int .i64 EY) := by
              obtain ⟨hc, _⟩ := bcell hnQ
              rw [hc _ _ hPP.1, hc _ _ hPP.1]
              exact ⟨Nat.lt_of_lt_of_le hPP.1 hnQ.size, hPP.2⟩
            have hnQ' : Below V3.heap.size V3 WQ := below_step hnQ hnP
            clear hWd hbQ hbk hS hsbr hg9r hsz hnP hPP hnQ KS hA1 hA2
            clear wk
            have hn1 : ¬ EX < FX := fun h => hf (.inl h)
            by_cases he : EX = FX
            · have hn2 : ¬ EY < FY := fun h => hf (.inr ⟨he, h⟩)
              clear hf
              subst he
              go_wp2_with fail
              go_roundg (m - (t + 1))
              case measure => omega
              case rel => exact ⟨t + 1, by omega, by go_num, hnQ'⟩
            · clear hf
              have he2 : (EX == FX) = false := by simp [he]
              go_wp2_with fail
              go_roundg (m - (t + 1))
              case measure => omega
              case rel => exact ⟨t + 1, by omega, by go_num, hnQ'⟩
      · have htm : t = m := by omega
        subst htm
        go_wp2
        go_meet
        exact hbel
  case rest =>
  have hwV4 : Below w.heap.size w wc := hwV3.trans (hcut.mono hwV3.size)
  obtain ⟨V4, hV4⟩ : ∃ z, z = wc := ⟨_, rfl⟩
  subst hV4
  go_wp2_with fail
  go_loopw [23] (fun s23 wr => ∃ j : Nat, s23 = .int .i64 j ∧ j ≤ q ∧ Below V3.heap.size V3 wr) (fun s23 _ => q - (intOf s23).toNat)
  case atStart => exact ⟨0, rfl, Nat.zero_le _, hcut⟩
  case round =>
    clear hcut hwV4
    obtain ⟨j, rfl, hj, hb4⟩ := hrel
    by_cases hjq : j < q
    · by_cases hq2 : 2 < q
      · obtain ⟨j', hj'⟩ : ∃ j', j' = (j + 1) % q := ⟨_, rfl⟩
        have hjm : j' < q := hj' ▸ Nat.mod_lt _ (by omega)
        have htm : Int.tmod ((j : Int) + 1) (q : Int) = (j' : Int) := by
          rw [hj', Int.tmod_eq_emod_of_nonneg (by omega)]
          simp
        obtain ⟨i', hi'⟩ : ∃ i', i' = (j + 2) % q := ⟨_, rfl⟩
        have him : i' < q := hi' ▸ Nat.mod_lt _ (by omega)
        have hti : Int.tmod ((j : Int) + 2) (q : Int) = (i' : Int) := by
          rw [hi', Int.tmod_eq_emod_of_nonneg (by omega)]
          simp
        obtain ⟨⟨bx, by'⟩, hpb⟩ : ∃ p, p = rg.getD j (0, 0) := ⟨_, rfl⟩
        obtain ⟨⟨cx, cy⟩, hpc⟩ : ∃ p, p = rg.getD j' (0, 0) := ⟨_, rfl⟩
        obtain ⟨⟨ax, ay⟩, hpa⟩ : ∃ p, p = rg.getD i' (0, 0) := ⟨_, rfl⟩
        have hsg : sgn (turnV (bx, by') (cx, cy) (ax, ay)) = 1 := by
          have h9 := HFX.out.left (by rw [HLR.out]; exact hq2) j (by rw [HLR.out]; exact hjq)
          rw [HLR.out, ← hj', ← hi', ← hpb, ← hpc, ← hpa] at h9
          exact h9
        have hrb := HRT.out j hjq
        have hrc := HRT.out j' hjm
        have hra := HRT.out i' him
        have KB := HKR.out j hjq
        have KC := HKR.out j' hjm
        have KA := HKR.out i' him
        rw [← hpb] at hrb KB
        rw [← hpc] at hrc KC
        rw [← hpa] at hra KA
        simp only at hrb hrc hra KB KC KA
        have HO : Hid (∀ U, Calls Try.prog 10 #[.agg #[.int .u64 bx, .int .u64 by'], .agg #[.int .u64 cx, .int .u64 cy], .agg #[.int .u64 ax, .int .u64 ay]] U fun e w' => Below U.heap.size U w' ∧ e = .returned (.tuple #[.int .i64 1, .int .i64 0])) := fun U => by
          rw [← hsg]
          exact orient_ok bx by' cx cy ax ay U (l64_3 ⟨hrb.2.2.1, hrb.2.2.2⟩ ⟨hrc.2.2.1, hrc.2.2.2⟩ ⟨hra.2.2.1, hra.2.2.2⟩) (ok3 hrb.1 hrb.2.1 hrc.1 hrc.2.1 hra.1 hra.2.1)
        have KS : ∀ w', Below V3.heap.size V3 w' → (w'.cell? ⟨g12, j * 2, none⟩ = some (.int .u64 (bx : Nat)) ∧ w'.cell? ⟨g12, j * 2 + 1, none⟩ = some (.int .u64 (by' : Nat))) ∧ (w'.cell? ⟨g12, j' * 2, none⟩ = some (.int .u64 (cx : Nat)) ∧ w'.cell? ⟨g12, j' * 2 + 1, none⟩ = some (.int .u64 (cy : Nat))) ∧ (w'.cell? ⟨g12, i' * 2, none⟩ = some (.int .u64 (ax : Nat)) ∧ w'.cell? ⟨g12, i' * 2 + 1, none⟩ = some (.int .u64 (ay : Nat))) := fun w' hb => ⟨KB w' hb, KC w' hb, KA w' hb⟩
        have hS := KS wr hb4
        have hW9 := hb4
        have hjq2 : (j : Int) < (q : Int) := by omega
        have hjm2 : (j' : Int) < (q : Int) := by omega
        have him2 : (i' : Int) < (q : Int) := by omega
        have hwj : IntKind.i64.wrap ((j : Int) + 1) = (j : Int) + 1 := by rw [IntKind.wrap_i64]; omega
        have hwm : IntKind.i64.wrap (j' : Int) = (j' : Int) := by rw [IntKind.wrap_i64]; omega
        have hwt : IntKind.i64.wrap (Int.tmod ((j : Int) + 1) (q : Int)) = (j' : Int) := by rw [htm]; exact hwm
        have hj0 : (0 : Int) ≤ (j' : Int) := by omega
        have hwj2 : IntKind.i64.wrap ((j : Int) + 2) = (j : Int) + 2 := by rw [IntKind.wrap_i64]; omega
        have hwm2 : IntKind.i64.wrap (i' : Int) = (i' : Int) := by rw [IntKind.wrap_i64]; omega
        have hwt2 : IntKind.i64.wrap (Int.tmod ((j : Int) + 2) (q : Int)) = (i' : Int) := by rw [hti]; exact hwm2
        have hi0' : (0 : Int) ≤ (i' : Int) := by omega
        clear hj' hi' hpb hpc hpa hsg hrb hrc hra KB KC KA
        go_wp2_with fail
        go_region_held3 (fun w' : World => (w'.cell? ⟨g12, j * 2, none⟩ = some (.int .u64 (bx : Nat)) ∧ w'.cell? ⟨g12, j * 2 + 1, none⟩ = some (.int .u64 (by' : Nat))) ∧ (w'.cell? ⟨g12, j' * 2, none⟩ = some (.int .u64 (cx : Nat)) ∧ w'.cell? ⟨g12, j' * 2 + 1, none⟩ = some (.int .u64 (cy : Nat))) ∧ (w'.cell? ⟨g12, i' * 2, none⟩ = some (.int .u64 (ax : Nat)) ∧ w'.cell? ⟨g12, i' * 2 + 1, none⟩ = some (.int .u64 (ay : Nat)))) (exact KS _ (by repeat (with_reducible first | refine Below.setCell ?_ (by first | (dsimp only; omega) | omega | (simp; done) | (simp; omega)) _ | refine below_alloc _ ?_ | refine Below.drew ?_ | exact hW9 | exact Below.refl _ _))) (first | (go_at_call 10; go_must (refine (HO.out _).mono ?_; rintro e wk ⟨hbk, rfl⟩; have hW9 : Below V3.heap.size V3 wk := below_step hbk (by repeat (with_reducible first | refine Below.setCell ?_ (by first | (dsimp only; omega) | omega | (simp; done) | (simp; omega)) _ | refine below_alloc _ ?_ | refine Below.drew ?_ | exact hW9 | exact Below.refl _ _)))))
        all_goals
          go_wp2
          go_roundw
          case rel => exact ⟨j + 1, by go_num, by omega, hW9⟩
          case measure => simp [intOf]; omega
      · go_wp2_with fail
        go_ret
        exact ⟨rfl, hwV3.trans (hb4.mono hwV3.size)⟩
    · go_wp2_with fail
      go_ret
      exact ⟨rfl, hwV3.trans (hb4.mono hwV3.size)⟩

end Go.Proofs.Ytbjjkfmdkmbcfaa
