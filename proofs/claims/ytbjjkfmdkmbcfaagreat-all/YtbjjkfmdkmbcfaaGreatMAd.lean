import Derived.Test.YtbjjkfmdkmbcfaaGreatMAh
import Derived.Test.YtbjjkfmdkmbcfaaGreatMNw
import Derived.OwnWalk
import Derived.Maps.AppendAt
import Derived.Deep.LoopGhost
import Derived.Deep.DeepCutAuto
import Derived.Deep.CutBlock
import Derived.Deep.RegionHeld3
namespace Go.Proofs.YtbjjkfmdkmbcfaaGreat
open Go.RowKit

theorem infoI3 : (Tryz.prog.info? 3).map (fun i => (i.zero, i.size, i.bytes)) = some (some (.int .i64 0), 1, 8) := by kernel_rfl
theorem infoL41 : (Tryz.prog.info? 41).map (fun i => (i.zero, i.size, i.bytes)) = some (some (.slice none 0 0), 1, 24) := by kernel_rfl

theorem marks_at {w : World} {g m : Nat} {M : Value} (h : ∀ j, j < m → w.cell? ⟨g, j, none⟩ = some M) : ∀ j u, (List.replicate m M)[j]? = some u → w.cell? ((⟨g, 0, none⟩ : Addr).add j) = some u := by
  intro j u hu
  have hadd : (⟨g, 0, none⟩ : Addr).add j = ⟨g, j, none⟩ := by unfold Addr.add; split <;> simp_all
  rw [List.getElem?_replicate] at hu
  split at hu
  · rename_i hj
    rw [hadd, h j hj]
    exact hu
  · cases hu

theorem Mks.alloc {w : World} {base : Nat} {v : Value} {n : Nat} {M : Value} (h : Mks w base v n M) (o : Obj) : Mks (w.alloc o) base v n M := row_below h ((Below.refl _ w).alloc (Nat.le_refl _) o)

theorem Bk.alloc {w : World} {base box : Nat} {lv : Value} {ls : List Value} (h : Bk w base box lv ls) (o : Obj) : Bk (w.alloc o) base box lv ls := h.kept ((Below.refl _ w).alloc (Nat.le_refl _) o)

/-- What keep needs of the list that came out. -/
structure Fresh (w : World) (B0 : Nat) (l : Value) (n : Nat) (ls : List Value) : Prop where
  row : ∃ xs, w.ownsRow B0 3 1 l n xs
  old : ∀ i (h : i < ls.length) g, ls[i].ownBlock = some g → g < B0

/-- An append of marks to the list: the book stands. -/
theorem Bk.marked {w w2 : World} {base box B0 : Nat} {lv : Value} {ls : List Value} {l : Value} {n : Nat} {M : Value} (h : Bk w base box lv ls) (hl : Mks w B0 l n M) (hg : w.grownBy w2 l.ownBlock) (old : ∀ i (h : i < ls.length) g, ls[i].ownBlock = some g → g < B0) : Bk w2 base box lv ls := by
  rcases hl.2 with ⟨rfl, _⟩ | ⟨g, cap, cur, rfl, hb, hgg, _⟩
  · exact h.kept ⟨hg.os, hg.tape, hg.output, hg.size, fun k hk => hg.block k hk (by simp [Value.ownBlock])⟩
  · refine h.grown hg hgg fun i hi e => ?_
    have := old i hi g e
    omega

theorem Mks.below {w w2 : World} {base B0 : Nat} {l : Value} {n : Nat} {M : Value} (hl : Mks w B0 l n M) (hb : base ≤ B0) (hB : B0 ≤ w.heap.size) (hg : w.grownBy w2 l.ownBlock) : Below base w w2 :=
  (Below.refl base w).grown hg (Nat.le_trans hb hB) fun k hk => Nat.le_trans hb (World.ownsRow.lt hl k hk).1

theorem mkV_4 (q r : Nat) (hr : r < 4) : mkV (4 * q + r) = mkV (4 * q) := by
  unfold mkV
  have : (4 * q + r) / 4 = (4 * q) / 4 := by omega
  rw [this]

theorem grown_set {w w' : World} {g k : Nat} {u : Value} (h : w.grownBy w' (some g)) : w.grownBy (w'.setCell ⟨g, k, none⟩ u) (some g) :=
  ⟨h.os, h.tape, h.output, by simpa [World.setCell] using h.size, fun i hi hne => by
    rw [Below.heap_setCell _ _ _ _ (by rintro rfl; exact hne rfl)]
    exact h.block i hi hne⟩

theorem row_form {w : World} {base : Nat} {e : TypeId} {size : Nat} {v : Value} {n : Nat} {xs : List Value} (h : w.ownsRow base e size v n xs) : ∃ p c, v = .slice p n c := by
  rcases h.2 with ⟨h1, h2⟩ | ⟨g, cap, cur, h1, _⟩
  · exact ⟨none, 0, by rw [h1, h2]⟩
  · exact ⟨_, cap, h1⟩

theorem below_one (w : World) (o : Obj) : Below w.heap.size w (w.alloc o) := (Below.refl _ w).alloc (Nat.le_refl _) o

theorem grown_refl (w : World) (r : Option Nat) : w.grownBy w r := ⟨rfl, rfl, rfl, Nat.le_refl _, fun _ _ _ => rfl⟩

/-- The box, behind an append to the book's row. -/
theorem Bk.bx {w w1 w2 : World} {base box : Nat} {lv : Value} {ls : List Value} (h : Bk w base box lv ls) (h0 : Below w.heap.size w w1) (h2 : w1.grownBy w2 lv.ownBlock) : w2.cell? ⟨box, 0, none⟩ = some lv ∧ w2.frozen? ⟨box, 0, none⟩ = false := by
  have hbx : w2.heap[box]? = some (.cells #[lv] 38 (0, 0)) := by
    have hlt := h.lt
    rw [h2.block box (Nat.lt_of_lt_of_le hlt h0.size) ?_, h0.block box hlt, h.box]
    intro e
    rcases h.row.2 with ⟨e', _⟩ | ⟨g, cap, cur, e', hb, hg, _⟩
    · rw [e'] at e; cases e
    · rw [e'] at e
      simp only [Value.ownBlock, Option.some.injEq] at e
      subst e
      rw [h.box] at hg
      simp only [Option.some.injEq, Obj.cells.injEq] at hg
      exact absurd hg.2.1 (by decide)
  exact ⟨by simp [World.cell?, hbx], by simp [World.frozen?, hbx]⟩

set_option maxHeartbeats 8000000 in
set_option maxRecDepth 100000 in
theorem keep_walk (base box B0 n q N : Nat) (lv : Value) (ls : List Value) (lo : Option Addr) (lc : Nat) (w : World) (hB : Bk w base box lv ls) (hN : N = ls.length) (hq : N = 4 * q) (hlen : (N + 4) * 24 ≤ 140737488355328) (hn : n ≤ 100000) (hb0 : base ≤ B0) (hb1 : B0 ≤ w.heap.size) (hF : Fresh w B0 (.slice lo n lc) n ls) :
    Calls Tryz.prog 33 #[.pointer (some ⟨box, 0, none⟩), .slice lo n lc] w fun e w' => e = .returned (.tuple #[]) ∧ Below base w w' ∧ ∃ lv' ls', Bk w' base box lv' ls' ∧ ls'.length = 4 * (q + 1) := by
  obtain ⟨i0, hi, hz0, hz1, hz2⟩ := info_parts infoI3
  obtain ⟨j0, hj, hy0, hy1, hy2⟩ := info_parts infoL41
  obtain ⟨o, c, rfl⟩ := hB.form
  rw [← hN] at hB
  have hbx := hB.cell
  have HQ : Hid (N = 4 * q) := hq
  have HF : Hid (Fresh w B0 (.slice lo n lc) n ls) := hF
  have HNL : Hid (N = ls.length) := hN
  have old := hF.old
  have HB : Hid (Bk w base box (.slice o N c) ls) := hB
  clear hq hF hN hB
  obtain ⟨m0, hm0⟩ : ∃ m0 : Int, mkV N = .int .i64 m0 := ⟨_, rfl⟩
  have HM0 : Hid (mkV N = .int .i64 m0) := hm0
  clear hm0
  have hqd : Int.tdiv (N : Int) 4 = ((N / 4 : Nat) : Int) := rfl
  go_enter Tryz.func33, Tryz.ntmps33
  go_upto_block 0 with fail
  go_cut [4, 5] (fun s4 s5 wc => s4 = .int .i64 m0 ∧ Mks wc B0 (.slice lo n lc) n (.int .i64 m0) ∧ Bk wc base box (.slice o N c) ls ∧ Below base w wc ∧ B0 ≤ wc.heap.size)
  case first =>
    by_cases h0 : n = 0
    · subst h0
      have hl0 : Mks w B0 (.slice lo 0 lc) 0 (mkV N) := by
        obtain ⟨xs, hx⟩ := HF.out.row
        have e : xs = [] := List.eq_nil_of_length_eq_zero (by simpa using hx.1)
        rw [e] at hx
        exact hx
      go_wp2_with fail
      refine wp_loop_rounds 1 ?_
      rw [rounds_succ]
      go_wp2_with fail
      go_meet
      exact ⟨HM0.out, HM0.out ▸ hl0, HB.out, Below.refl _ _, hb1⟩
    · obtain ⟨g, rfl, hgB, hln, hlm, hrow⟩ : ∃ g, lo = some ⟨g, 0, none⟩ ∧ B0 ≤ g ∧ n ≤ lc ∧ lc ≤ maxLen ∧ MRow w g lc 0 (mkV N) := by
        obtain ⟨xs, hx⟩ := HF.out.row
        rcases hx.2 with ⟨e, e2⟩ | ⟨g, cap, cur, e, hb, hg, h3, h4, h5, _⟩
        · exact absurd e2 h0
        · simp only [Value.slice.injEq, true_and] at e
          obtain ⟨rfl, rfl⟩ := e
          exact ⟨g, rfl, hb, h3, h4, cur, hg, by omega, fun j hj => absurd hj (Nat.not_lt_zero _)⟩
      have HR0 : Hid (MRow w g lc 0 (mkV N)) := hrow
      have hgw : g < w.heap.size := by
        obtain ⟨cur, hg, _⟩ := hrow
        exact (Array.getElem?_eq_some_iff.1 hg).1
      clear hrow
      go_wp2_with fail
      go_loopw [5] (fun s5 wr => ∃ k : Nat, s5 = .int .i64 k ∧ k ≤ n ∧ MRow wr g lc k (mkV N) ∧ w.grownBy wr (some g)) (fun s5 _ => n - (intOf s5).toNat)
      case atStart => exact ⟨0, rfl, Nat.zero_le _, HR0.out, grown_refl _ _⟩
      case round =>
        obtain ⟨k, rfl, hk, hr, hgr⟩ := hrel
        by_cases hlt : k < n
        · obtain ⟨u, hcu, hfu⟩ := hr.cell (by omega)
          have HR : Hid (MRow wr g lc k (mkV N)) := hr
          have HG : Hid (w.grownBy wr (some g)) := hgr
          clear hr hgr
          go_wp2_with fail
          go_roundw
          case rel => exact ⟨k + 1, by go_num, by omega, HR.out.put (by omega), grown_set HG.out⟩
          case measure => simp [intOf]; omega
        · have hkn : k = n := by omega
          subst hkn
          have h1 : Mks wr B0 (.slice (some ⟨g, 0, none⟩) k lc) k (mkV N) := hr.marks hln hlm hgB
          have h2 : Bk wr base box (.slice o N c) ls := by
            obtain ⟨cur, hg, _⟩ := HR0.out
            refine HB.out.grown hgr hg fun i hi e => ?_
            have := old i hi g e
            omega
          have h3 : Below base w wr := (Below.refl base w).grown hgr (by omega) fun j hj => by
            simp only [Option.some.injEq] at hj
            omega
          go_wp2_with fail
          go_meet
          exact ⟨HM0.out, HM0.out ▸ h1, h2, h3, by have := hgr.size; omega⟩
  case rest =>
  obtain ⟨rfl, hM0, hK0, hbz, hs0⟩ := hcut
  obtain ⟨w0, hw0⟩ : ∃ z, z = wc := ⟨_, rfl⟩
  subst hw0
  clear hbx HB HF hqd hb1
  go_upto_region 6 with (at_builtin; go_must (refine wpList_append_marks rfl _ _ 41 rfl B0 i0 _ Tryz.underlying41 hi hz0 hz1 hz2 rfl (.int .i64 m0) rfl _ n rfl (hM0.alloc _) ⟨_, 0, none⟩ 1 1 rfl (marks_at (by intro j hj; (first | (have e : j = 0 := by omega) | (have e : j = 0 ∨ j = 1 := by omega) | (have e : j = 0 ∨ j = 1 ∨ j = 2 := by omega)); (first | subst e | (rcases e with rfl | rfl) | (rcases e with rfl | rfl | rfl)) <;> simp [go_sem])) (by unfold maxLen; omega) (by omega) (by have := hs0; simp; omega) ?_; intro v1 w1 hv1 hg1 hk1))
  have hM1 := hk1 _ _ _ (hM0.alloc _)
  have hK1 := (hK0.alloc _).marked (hM0.alloc _) hg1 old
  have hb1 : Below base w w1 := hbz.trans (((Below.refl _ _).alloc (by have := hs0; omega) _).trans (Mks.below (hM0.alloc _) hb0 (by have := hs0; simp; omega) hg1))
  have hs1 : B0 ≤ w1.heap.size := by have h9 := hg1.size; have h8 := hs0; simp at h9; omega
  clear hg1 hk1 hM0 hK0 hbz hs0
  obtain ⟨p1, c1, hf1⟩ := hv1.form
  subst hf1
  go_upto_region 7 with (at_builtin; go_must (refine wpList_append_marks rfl _ _ 41 rfl B0 i0 _ Tryz.underlying41 hi hz0 hz1 hz2 rfl (.int .i64 m0) rfl _ n rfl (hM1.alloc _) ⟨_, 0, none⟩ 2 2 rfl (marks_at (by intro j hj; (first | (have e : j = 0 := by omega) | (have e : j = 0 ∨ j = 1 := by omega) | (have e : j = 0 ∨ j = 1 ∨ j = 2 := by omega)); (first | subst e | (rcases e with rfl | rfl) | (rcases e with rfl | rfl | rfl)) <;> simp [go_sem])) (by unfold maxLen; omega) (by omega) (by have := hs1; simp; omega) ?_; intro v2 w2 hv2 hg2 hk2))
  have hM2 := hk2 _ _ _ (hM1.alloc _)
  have hK2 := (hK1.alloc _).marked (hM1.alloc _) hg2 old
  have hb2 : Below base w w2 := hb1.trans (((Below.refl _ _).alloc (by have := hs1; omega) _).trans (Mks.below (hM1.alloc _) hb0 (by have := hs1; simp; omega) hg2))
  have hs2 : B0 ≤ w2.heap.size := by have h9 := hg2.size; have h8 := hs1; simp at h9; omega
  have hv1 := hk2 _ _ _ (hv1.alloc _)
  clear hg2 hk2 hM1 hK1 hb1 hs1
  obtain ⟨p2, c2, hf2⟩ := hv2.form
  subst hf2
  go_upto_region 8 with (at_builtin; go_must (refine wpList_append_marks rfl _ _ 41 rfl B0 i0 _ Tryz.underlying41 hi hz0 hz1 hz2 rfl (.int .i64 m0) rfl _ n rfl (hM2.alloc _) ⟨_, 0, none⟩ 3 3 rfl (marks_at (by intro j hj; (first | (have e : j = 0 := by omega) | (have e : j = 0 ∨ j = 1 := by omega) | (have e : j = 0 ∨ j = 1 ∨ j = 2 := by omega)); (first | subst e | (rcases e with rfl | rfl) | (rcases e with rfl | rfl | rfl)) <;> simp [go_sem])) (by unfold maxLen; omega) (by omega) (by have := hs2; simp; omega) ?_; intro v3 w3 hv3 hg3 hk3))
  have hM3 := hk3 _ _ _ (hM2.alloc _)
  have hK3 := (hK2.alloc _).marked (hM2.alloc _) hg3 old
  have hb3 : Below base w w3 := hb2.trans (((Below.refl _ _).alloc (by have := hs2; omega) _).trans (Mks.below (hM2.alloc _) hb0 (by have := hs2; simp; omega) hg3))
  have hs3 : B0 ≤ w3.heap.size := by have h9 := hg3.size; have h8 := hs2; simp at h9; omega
  have hv1 := hk3 _ _ _ (hv1.alloc _)
  have hv2 := hk3 _ _ _ (hv2.alloc _)
  clear hg3 hk3 hM2 hK2 hb2 hs2
  obtain ⟨p3, c3, hf3⟩ := hv3.form
  subst hf3
  have n0 : Mks w3 base (Value.slice lo n lc) n (mkV N) := by rw [HM0.out]; exact row_mono hM3 hb0
  have n1 : Mks w3 base (Value.slice p1 (n + 1) c1) (n + 1) (mkV N) := by rw [HM0.out]; exact row_mono hv1 hb0
  have n2 : Mks w3 base (Value.slice p2 (n + 2) c2) (n + 2) (mkV N) := by rw [HM0.out]; exact row_mono hv2 hb0
  have n3 : Mks w3 base (Value.slice p3 (n + 3) c3) (n + 3) (mkV N) := by rw [HM0.out]; exact row_mono hv3 hb0
  clear hM3 hv1 hv2 hv3 HM0 hs3
  have HN0 : Hid (Mks w3 base (Value.slice lo n lc) n (mkV N)) := n0
  have HN1 : Hid (Mks w3 base (Value.slice p1 (n + 1) c1) (n + 1) (mkV N)) := n1
  have HN2 : Hid (Mks w3 base (Value.slice p2 (n + 2) c2) (n + 2) (mkV N)) := n2
  have HN3 : Hid (Mks w3 base (Value.slice p3 (n + 3) c3) (n + 3) (mkV N)) := n3
  clear n0 n1 n2 n3
  have hL3 : N + 0 = ls.length := HNL.out
  obtain ⟨L3, hLL3⟩ : ∃ L, L = ls := ⟨_, rfl⟩
  rw [← hLL3] at hK3 hL3
  clear hLL3 old HNL
  have hx4 := hK3.cell
  have HK3 : Hid (Bk w3 base box _ L3) := hK3
  clear hK3
  go_upto_region 9 with (at_builtin; go_must (refine wpList_append_own_at _ rfl _ _ 36 rfl base 41 j0 _ 1 24 Tryz.underlying36 hj hy0 hy1 hy2 rfl (by decide) _ L3.length L3 rfl (HK3.out.alloc _).row ⟨_, 0, none⟩ 1 1 [(Value.slice lo n lc)] rfl rfl (cell_one_new _ _ _) (by intro u hu; simp at hu; subst hu; rfl) (by unfold maxLen; omega) (by omega) (by have h8 := HK3.out.le; have h9 := HK3.out.lt; simp; omega) ?_; intro v4 u4 h1 h2 _ _; obtain ⟨q4, d4, hv4⟩ := row_form h1; subst hv4; obtain ⟨hc4, hf4⟩ := (HK3.out.alloc _).bx (Below.refl _ _) h2))
  obtain ⟨hK4, hT4, hB4⟩ := HK3.out.push (l := (Value.slice lo n lc)) ⟨_, by rw [← hL3, HQ.out, mkV_4 q 0 (by omega), ← HQ.out]; exact HN0.out⟩ (below_one _ _) h1 h2
  have hL4 : N + 1 = (L3 ++ [(Value.slice lo n lc)]).length := by rw [List.length_append, ← hL3]; rfl
  clear h1 h2 hc4 hf4 HK3 hx4 HN0
  have hb4 : Below base w (u4.setCell ⟨box, 0, none⟩ (Value.slice q4 (L3.length + 1) d4)) := hb3.trans hB4
  have HN1 : Hid (Mks (u4.setCell ⟨box, 0, none⟩ (Value.slice q4 (L3.length + 1) d4)) base (Value.slice p1 (n + 1) c1) (n + 1) (mkV N)) := hT4 _ _ _ _ HN1.out
  have HN2 : Hid (Mks (u4.setCell ⟨box, 0, none⟩ (Value.slice q4 (L3.length + 1) d4)) base (Value.slice p2 (n + 2) c2) (n + 2) (mkV N)) := hT4 _ _ _ _ HN2.out
  have HN3 : Hid (Mks (u4.setCell ⟨box, 0, none⟩ (Value.slice q4 (L3.length + 1) d4)) base (Value.slice p3 (n + 3) c3) (n + 3) (mkV N)) := hT4 _ _ _ _ HN3.out
  clear hT4 hB4 hb3
  generalize u4.setCell ⟨box, 0, none⟩ (Value.slice q4 (L3.length + 1) d4) = w4 at *
  obtain ⟨L4, hLL4⟩ : ∃ L, L = L3 ++ [(Value.slice lo n lc)] := ⟨_, rfl⟩
  rw [← hLL4] at hK4 hL4
  clear hLL4 hL3
  have hx5 := hK4.cell
  have HK4 : Hid (Bk w4 base box _ L4) := hK4
  clear hK4
  go_upto_region 10 with (at_builtin; go_must (refine wpList_append_own_at _ rfl _ _ 36 rfl base 41 j0 _ 1 24 Tryz.underlying36 hj hy0 hy1 hy2 rfl (by decide) _ L4.length L4 rfl (HK4.out.alloc _).row ⟨_, 0, none⟩ 1 1 [(Value.slice p1 (n + 1) c1)] rfl rfl (cell_one_new _ _ _) (by intro u hu; simp at hu; subst hu; rfl) (by unfold maxLen; omega) (by omega) (by have h8 := HK4.out.le; have h9 := HK4.out.lt; simp; omega) ?_; intro v5 u5 h1 h2 _ _; obtain ⟨q5, d5, hv5⟩ := row_form h1; subst hv5; obtain ⟨hc5, hf5⟩ := (HK4.out.alloc _).bx (Below.refl _ _) h2))
  obtain ⟨hK5, hT5, hB5⟩ := HK4.out.push (l := (Value.slice p1 (n + 1) c1)) ⟨_, by rw [← hL4, HQ.out, mkV_4 q 1 (by omega), ← HQ.out]; exact HN1.out⟩ (below_one _ _) h1 h2
  have hL5 : N + 2 = (L4 ++ [(Value.slice p1 (n + 1) c1)]).length := by rw [List.length_append, ← hL4]; rfl
  clear h1 h2 hc5 hf5 HK4 hx5 HN1
  have hb5 : Below base w (u5.setCell ⟨box, 0, none⟩ (Value.slice q5 (L4.length + 1) d5)) := hb4.trans hB5
  have HN2 : Hid (Mks (u5.setCell ⟨box, 0, none⟩ (Value.slice q5 (L4.length + 1) d5)) base (Value.slice p2 (n + 2) c2) (n + 2) (mkV N)) := hT5 _ _ _ _ HN2.out
  have HN3 : Hid (Mks (u5.setCell ⟨box, 0, none⟩ (Value.slice q5 (L4.length + 1) d5)) base (Value.slice p3 (n + 3) c3) (n + 3) (mkV N)) := hT5 _ _ _ _ HN3.out
  clear hT5 hB5 hb4
  generalize u5.setCell ⟨box, 0, none⟩ (Value.slice q5 (L4.length + 1) d5) = w5 at *
  obtain ⟨L5, hLL5⟩ : ∃ L, L = L4 ++ [(Value.slice p1 (n + 1) c1)] := ⟨_, rfl⟩
  rw [← hLL5] at hK5 hL5
  clear hLL5 hL4
  have hx6 := hK5.cell
  have HK5 : Hid (Bk w5 base box _ L5) := hK5
  clear hK5
  go_upto_region 11 with (at_builtin; go_must (refine wpList_append_own_at _ rfl _ _ 36 rfl base 41 j0 _ 1 24 Tryz.underlying36 hj hy0 hy1 hy2 rfl (by decide) _ L5.length L5 rfl (HK5.out.alloc _).row ⟨_, 0, none⟩ 1 1 [(Value.slice p2 (n + 2) c2)] rfl rfl (cell_one_new _ _ _) (by intro u hu; simp at hu; subst hu; rfl) (by unfold maxLen; omega) (by omega) (by have h8 := HK5.out.le; have h9 := HK5.out.lt; simp; omega) ?_; intro v6 u6 h1 h2 _ _; obtain ⟨q6, d6, hv6⟩ := row_form h1; subst hv6; obtain ⟨hc6, hf6⟩ := (HK5.out.alloc _).bx (Below.refl _ _) h2))
  obtain ⟨hK6, hT6, hB6⟩ := HK5.out.push (l := (Value.slice p2 (n + 2) c2)) ⟨_, by rw [← hL5, HQ.out, mkV_4 q 2 (by omega), ← HQ.out]; exact HN2.out⟩ (below_one _ _) h1 h2
  have hL6 : N + 3 = (L5 ++ [(Value.slice p2 (n + 2) c2)]).length := by rw [List.length_append, ← hL5]; rfl
  clear h1 h2 hc6 hf6 HK5 hx6 HN2
  have hb6 : Below base w (u6.setCell ⟨box, 0, none⟩ (Value.slice q6 (L5.length + 1) d6)) := hb5.trans hB6
  have HN3 : Hid (Mks (u6.setCell ⟨box, 0, none⟩ (Value.slice q6 (L5.length + 1) d6)) base (Value.slice p3 (n + 3) c3) (n + 3) (mkV N)) := hT6 _ _ _ _ HN3.out
  clear hT6 hB6 hb5
  generalize u6.setCell ⟨box, 0, none⟩ (Value.slice q6 (L5.length + 1) d6) = w6 at *
  obtain ⟨L6, hLL6⟩ : ∃ L, L = L5 ++ [(Value.slice p2 (n + 2) c2)] := ⟨_, rfl⟩
  rw [← hLL6] at hK6 hL6
  clear hLL6 hL5
  have hx7 := hK6.cell
  have HK6 : Hid (Bk w6 base box _ L6) := hK6
  clear hK6
  go_wp2_with (at_builtin; go_must (refine wpList_append_own_at _ rfl _ _ 36 rfl base 41 j0 _ 1 24 Tryz.underlying36 hj hy0 hy1 hy2 rfl (by decide) _ L6.length L6 rfl (HK6.out.alloc _).row ⟨_, 0, none⟩ 1 1 [(Value.slice p3 (n + 3) c3)] rfl rfl (cell_one_new _ _ _) (by intro u hu; simp at hu; subst hu; rfl) (by unfold maxLen; omega) (by omega) (by have h8 := HK6.out.le; have h9 := HK6.out.lt; simp; omega) ?_; intro v7 u7 h1 h2 _ _; obtain ⟨q7, d7, hv7⟩ := row_form h1; subst hv7; obtain ⟨hc7, hf7⟩ := (HK6.out.alloc _).bx (Below.refl _ _) h2))
  obtain ⟨hK7, hT7, hB7⟩ := HK6.out.push (l := (Value.slice p3 (n + 3) c3)) ⟨_, by rw [← hL6, HQ.out, mkV_4 q 3 (by omega), ← HQ.out]; exact HN3.out⟩ (below_one _ _) h1 h2
  have hL7 : N + 4 = (L6 ++ [(Value.slice p3 (n + 3) c3)]).length := by rw [List.length_append, ← hL6]; rfl
  clear h1 h2 hc7 hf7 HK6 hx7 HN3
  have hb7 : Below base w (u7.setCell ⟨box, 0, none⟩ (Value.slice q7 (L6.length + 1) d7)) := hb6.trans hB7
  clear hT7 hB7 hb6
  generalize u7.setCell ⟨box, 0, none⟩ (Value.slice q7 (L6.length + 1) d7) = w7 at *
  obtain ⟨L7, hLL7⟩ : ∃ L, L = L6 ++ [(Value.slice p3 (n + 3) c3)] := ⟨_, rfl⟩
  rw [← hLL7] at hK7 hL7
  clear hLL7 hL6
  go_end0
  exact ⟨rfl, hb7, _, _, hK7, by have := HQ.out; omega⟩

end Go.Proofs.YtbjjkfmdkmbcfaaGreat

namespace Go.Proofs.YtbjjkfmdkmbcfaaGreat
open Go.RowKit
open PlLv
open HL (lx)

/-- The first of the first k, from the left. -/
def firstN (X : Nat → Int × Int) : Nat → Nat
  | 0 => 0
  | k + 1 => if (X k).1 < (X (firstN X k)).1 ∨ ((X k).1 = (X (firstN X k)).1 ∧ (X k).2 < (X (firstN X k)).2) then k else firstN X k

/-- The reference's corners. -/
def hullW (X : Nat → Int × Int) (n f : Nat) : Nat → List Nat → Option Nat → List Nat
  | 0, out, _ => out
  | _ + 1, out, none => out
  | k + 1, out, some a => if X a = X f then out else hullW X n f k (out ++ [a]) (bestN X (X a) n)

def hullR (X : Nat → Int × Int) (n : Nat) : List Nat :=
  if n = 0 then [] else hullW X n (firstN X n) n [firstN X n] (bestN X (X (firstN X n)) n)

theorem first_pos {X : Nat → Int × Int} {k : Nat} (h : lx (X k) (X (firstN X k))) : firstN X (k + 1) = k := by
  rw [firstN]
  exact if_pos h

theorem first_neg {X : Nat → Int × Int} {k : Nat} (h : ¬ lx (X k) (X (firstN X k))) : firstN X (k + 1) = firstN X k := by
  rw [firstN]
  exact if_neg h

theorem first_one (X : Nat → Int × Int) : firstN X 1 = 0 := by
  rw [firstN]
  split
  · rfl
  · rfl

theorem first_lt (X : Nat → Int × Int) : ∀ n, 0 < n → firstN X n < n := by
  intro n
  induction n with
  | zero => intro h; omega
  | succ n ih =>
    intro _
    rw [firstN]
    split
    · omega
    · rcases Nat.eq_zero_or_pos n with h0 | h0
      · subst h0
        exact Nat.lt_succ_self _
      · have := ih h0
        omega

theorem PtAt.kept {w w' : World} {g i : Nat} {q : PB} {x : Int × Int} (h : PtAt w g i q x) (hg : g < w.heap.size) (hb : Below w.heap.size w w') : PtAt w' g i q x := by
  obtain ⟨⟨c0, c1, c2, c3⟩, h1, h2, h3⟩ := h
  obtain ⟨hc, _⟩ := bcell hb
  exact ⟨⟨by rw [hc _ _ hg]; exact c0, by rw [hc _ _ hg]; exact c1, by rw [hc _ _ hg]; exact c2, by rw [hc _ _ hg]; exact c3⟩, h1.kept hb, h2.kept hb, h3⟩

def nV (x : Nat) : Value := .int .i64 (x : Int)

/-- A row of numbers that is the call's own. -/
def CW (w : World) (base : Nat) (v : Value) (xs : List Nat) : Prop := w.ownsRow base 3 1 v xs.length (xs.map nV)

theorem cw_one {base : Nat} (w : World) (x : Nat) (hb : base ≤ w.heap.size) : CW (w.alloc (.cells #[.int .i64 (x : Int)] 3)) base (.slice (some ⟨w.heap.size, 0, none⟩) 1 1) [x] :=
  ⟨rfl, .inr ⟨_, 1, #[.int .i64 (x : Int)], rfl, hb, heap_alloc_new w _, Nat.le_refl _, by decide, rfl, rfl⟩⟩

theorem cw_len {w : World} {base m : Nat} {v : Value} {xs : List Nat} (hm : xs.length = m) (h : CW w base v xs) : w.ownsRow base 3 1 v m (xs.map nV) := by
  subst hm
  exact h

theorem cw_push {w : World} {base k a : Nat} {v : Value} {out : List Nat} (hl : out.length = k + 1) (h : w.ownsRow base 3 1 v (k + 1 + 1) (out.map nV ++ [nV a])) : CW w base v (out ++ [a]) := by
  unfold CW
  rw [List.length_append, hl, List.map_append]
  exact h

theorem cw_below {W w w' : World} {o : Obj} {v : Value} {xs : List Nat} (h : Below W.heap.size W w) (hc : CW (w.alloc o) W.heap.size v xs) (hg : (w.alloc o).grownBy w' v.ownBlock) : Below W.heap.size W w' :=
  (below_alloc o h).grown hg (below_alloc o h).size fun k hk => (World.ownsRow.lt hc k hk).1

theorem CW.cells {w : World} {base : Nat} {v : Value} {xs : List Nat} (h : CW w base v xs) (hn : xs.length ≠ 0) : ∃ g c, v = .slice (some ⟨g, 0, none⟩) xs.length c ∧ g < w.heap.size ∧ ∀ j (hj : j < xs.length), w.cell? ⟨g, j, none⟩ = some (nV xs[j]) := by
  rcases h.2 with ⟨h1, h2⟩ | ⟨g, cap, cur, h1, hb, hg, hc, hm, hs, ht⟩
  · exact absurd h2 hn
  · refine ⟨g, cap, h1, (Array.getElem?_eq_some_iff.1 hg).1, fun j hj => ?_⟩
    have h3 : (cur.toList.take (xs.length * 1))[j]? = (xs.map nV)[j]? := by rw [ht]
    rw [List.getElem?_take, if_pos (by omega), Array.getElem?_toList, List.getElem?_map, List.getElem?_eq_getElem hj] at h3
    simp [World.cell?, hg, h3]

end Go.Proofs.YtbjjkfmdkmbcfaaGreat
